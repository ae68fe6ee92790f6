/-
  Der: the reader's next byte.
-/
import Derived.BigQuiet
import Derived.Deep.QuietTactic
import Derived.Deep.CutRange
import Derived.Test.YtillkhjihggcjaaGreatDoorK7
namespace Go.Proofs.YtillkhjihggcjaaGreatDoor
open Go.RowKit
theorem wp_gen {P : Program} {c : Code} {Q : Exit → Act → World → Prop} {a : Act} {W : World} (R : World → Prop) (hR : R W) (h : ∀ W', R W' → Code.wp P c Q a W') : Code.wp P c Q a W := h W hR
/-- A reader lies at block g: it reads n bytes of block b from off on, and stands at p. -/
def Rdr (w : World) (g b off n c p : Nat) : Prop := Blk 179 w g [.slice (some ⟨b, off, none⟩) n c, .int .i64 p]
set_option maxHeartbeats 1000000 in
theorem next_any {w : World} (g b off n c p : Nat) (x : Int) (hR : Rdr w g b off n c p) (hp : p < n) (hn : n ≤ 16777216) (hx : w.cell? ⟨b, off + p, none⟩ = some (.int .u8 x)) :
    Calls Tryz.prog 131 #[.pointer (some ⟨g, 0, none⟩)] w fun e w' => e = .returned (.tuple #[.int .u8 x, .int .i64 0]) ∧ Upd w w' g ∧ Rdr w' g b off n c (p + 1) := by
  have c0 : w.cell? ⟨g, 0, none⟩ = some (.slice (some ⟨b, off, none⟩) n c) := hR.cell 0
  have c1 : w.cell? ⟨g, 1, none⟩ = some (.int .i64 p) := hR.cell 1
  have f1 := hR.frozen 1
  have HR : Hid (Rdr w g b off n c p) := hR
  have hpI : (p : Int) < (n : Int) := by omega
  have hne : ¬ (p : Int) = (n : Int) := by omega
  clear hR
  go_enter Tryz.func131, Tryz.ntmps131
  go_upto_region 1 with (fail)
  go_quiet (fail)
  go_upto_region 3 with (fail)
  refine wp_gen (fun W => W = w.drewN nq) rfl ?_
  intro w1 hw1
  have HW1 : Hid (w1 = w.drewN nq) := hw1
  replace c0 : w1.cell? ⟨g, 0, none⟩ = some (.slice (some ⟨b, off, none⟩) n c) := by rw [hw1]; exact c0
  replace c1 : w1.cell? ⟨g, 1, none⟩ = some (.int .i64 p) := by rw [hw1]; exact c1
  replace f1 : w1.frozen? ⟨g, 1, none⟩ = false := by rw [hw1]; exact f1
  replace hx : w1.cell? ⟨b, off + p, none⟩ = some (.int .u8 x) := by rw [hw1]; exact hx
  clear hw1
  go_quiet (fail)
  go_wp2
  go_ret2
  refine ⟨rfl, ?_, ?_⟩
  · have h1 : Upd w (w1.drewN nq) g := by rw [HW1.out]; exact ⟨rfl, rfl, rfl, Nat.le_refl _, fun _ _ _ => rfl⟩
    exact h1.trans (Upd.set _ _ _ _)
  · have h1 : Blk 179 (w1.drewN nq) g [.slice (some ⟨b, off, none⟩) n c, .int .i64 p] := by rw [HW1.out]; exact HR.out
    have := h1.set 1 (.int .i64 ((p + 1 : Nat) : Int))
    exact this
set_option maxHeartbeats 1000000 in
theorem isHead_ok {w : World} (cl tg : Int) (h0 : 0 ≤ cl) (h1 : cl ≤ 3) (h2 : 1 ≤ tg) (h3 : tg ≤ 30) :
    Calls Tryz.prog 133 #[.int .i64 cl, .int .i64 tg] w fun e w' => e = .returned (.bool true) ∧ w = w' := by
  have h4 : ¬ tg = 0 := by omega
  have h5 : (tg != 0) = true := by simpa using h4
  clear h4
  by_cases h : cl = 0
  · subst h
    go_enter Tryz.func133, Tryz.ntmps133
    go_wp2
    go_ret
    exact ⟨rfl, rfl⟩
  · have h6 : (cl != 0) = true := by simpa using h
    go_enter Tryz.func133, Tryz.ntmps133
    go_wp2
    go_ret
    exact ⟨rfl, rfl⟩
/-- A function with two results, the first in a block of its own. -/
theorem results_blk2 {P : Program} {fn : Func} {T : TypeId} {t u : Tmp} (h : fn.results = #[.cell t T, .tmp u]) {a : Array Value} {w : World} {b : Nat} {cs : List Value} {d : TypeDesc} {v : Value} (ha : a.getD t undef = .pointer (some ⟨b, 0, none⟩))
    (hb : Blk T w b cs) (hu : P.underlying T = some d) (hd : d.isRow = true) (hi : (P.info? T).map (·.size) = some cs.length) (hv : a.getD u undef = v) : (results fn a).run P w = .ok (.tuple #[.agg cs.toArray, v]) w := by
  have := run_loadVar_mid (P := P) w b 0 T cs d hb.whole hu hd hi
  have ha' : a[t]?.getD undef = .pointer (some ⟨b, 0, none⟩) := by simpa using ha
  have hv' : a[u]?.getD undef = v := by simpa using hv
  simp [results, h, ha', asAddr, this, hv']
theorem Upd.old {w w1 w2 : World} {o : Obj} {g : Nat} (h : Upd (w.alloc o) w1 g) (h2 : Upd w1 w2 w.heap.size) : Upd w w2 g := by
  have hs := (al1 (w := w) o).size
  have h1 := h.size
  refine ⟨h2.os.trans h.os, h2.tape.trans h.tape, h2.output.trans h.output, by have := h2.size; omega, fun j hj hne => ?_⟩
  rw [h2.block j (by omega) (fun e => by simp at e; omega), h.block j (by omega) hne]
  exact (al1 (w := w) o).block j hj
theorem Tryz.sizeT : (Tryz.prog.info? 24).map (·.size) = some 5 := by kernel_rfl
set_option maxHeartbeats 1000000 in
theorem head_short {w : World} (g b off n c p : Nat) (x cl tg y : Int) (hR : Rdr w g b off n c p) (hp : p < n) (hn : n ≤ 16777216) (hx : w.cell? ⟨b, off + p, none⟩ = some (.int .u8 x)) (hbg : b < w.heap.size)
    (e6 : x / 64 = cl) (e31 : bits .and .u8 x 31 = tg) (e32 : bits .and .u8 x 32 = y) (h0 : 0 ≤ cl) (h1 : cl ≤ 3) (h2 : 1 ≤ tg) (h3 : tg ≤ 30) :
    Calls Tryz.prog 115 #[.pointer (some ⟨g, 0, none⟩)] w fun e w' => e = .returned (.tuple #[.agg #[.int .i64 cl, .int .i64 tg, .bool (y != 0), .slice none 0 0, .slice none 0 0], .int .i64 0]) ∧ Upd w w' g ∧ Rdr w' g b off n c (p + 1) := by
  have HR : Hid (Rdr w g b off n c p ∧ w.cell? ⟨b, off + p, none⟩ = some (.int .u8 x)) := ⟨hR, hx⟩
  clear hR hx
  go_enter Tryz.func115, Tryz.ntmps115
  go_wp2_with fail
  refine (next_any g b off n c p x (HR.out.1.alloc _) hp hn ?_).mono ?_
  · rw [← HR.out.2]; exact (al1 _).cell (p := ⟨b, off + p, none⟩) hbg
  rintro e w1 ⟨rfl, hu, hr⟩
  have hgl := HR.out.1.lt
  have hB1 : Blk 24 w1 w.heap.size [.int .i64 0, .int .i64 0, .bool false, .slice none 0 0, .slice none 0 0] := hu.blk (Blk.new _ w _) (by omega)
  have d0 : w1.cell? ⟨w.heap.size, 0, none⟩ = some (.int .i64 0) := hB1.cell 0
  have d1 : w1.cell? ⟨w.heap.size, 1, none⟩ = some (.int .i64 0) := hB1.cell 1
  have d2 : w1.cell? ⟨w.heap.size, 2, none⟩ = some (.bool false) := hB1.cell 2
  have d3 : w1.cell? ⟨w.heap.size, 3, none⟩ = some (.slice none 0 0) := hB1.cell 3
  have d4 : w1.cell? ⟨w.heap.size, 4, none⟩ = some (.slice none 0 0) := hB1.cell 4
  have f0 := hB1.frozen 0
  have f1 := hB1.frozen 1
  have f2 := hB1.frozen 2
  have f3 := hB1.frozen 3
  have f4 := hB1.frozen 4
  have H1 : Hid (Upd (w.alloc (.cells #[.int .i64 0, .int .i64 0, .bool false, .slice none 0 0, .slice none 0 0] 24)) w1 g ∧ Rdr w1 g b off n c (p + 1) ∧ Blk 24 w1 w.heap.size [.int .i64 0, .int .i64 0, .bool false, .slice none 0 0, .slice none 0 0]) := ⟨hu, hr, hB1⟩
  clear hu hr hB1
  have h41 : ¬ tg = 31 := by omega
  go_wp2_with (go_at_call 133; refine (isHead_ok cl tg h0 h1 h2 h3).mono ?_; rintro e w' ⟨rfl, rfl⟩)
  have hB := (((((((H1.out.2.2.set 0 (.int .i64 cl)).set 2 (.bool (y != 0))).set 1 (.int .i64 tg)).set 0 (.int .i64 cl)).set 1 (.int .i64 tg)).set 2 (.bool (y != 0))).set 3 (.slice none 0 0)).set 4 (.slice none 0 0)
  have hU := (((((((Upd.set w1 w.heap.size 0 (.int .i64 cl)).trans (Upd.set _ _ 2 (.bool (y != 0)))).trans (Upd.set _ _ 1 (.int .i64 tg))).trans (Upd.set _ _ 0 (.int .i64 cl))).trans (Upd.set _ _ 1 (.int .i64 tg))).trans (Upd.set _ _ 2 (.bool (y != 0)))).trans (Upd.set _ _ 3 (.slice none 0 0))).trans (Upd.set _ _ 4 (.slice none 0 0))
  have hgl := HR.out.1.lt
  refine bodyPost_ret (results_blk2 rfl rfl hB Tryz.underlying24 rfl Tryz.sizeT rfl) rfl ⟨rfl, H1.out.1.old hU, ?_⟩
  exact hU.blk H1.out.2.1 (by omega)
end Go.Proofs.YtillkhjihggcjaaGreatDoor
/-
  Der: a short length; bytes copied; a short element.
-/
namespace Go.Proofs.YtillkhjihggcjaaGreatDoor
open Go.RowKit
set_option maxHeartbeats 1000000 in
theorem length_short {w : World} (g b off n c p : Nat) (x : Int) (hR : Rdr w g b off n c p) (hp : p < n) (hn : n ≤ 16777216) (hx : w.cell? ⟨b, off + p, none⟩ = some (.int .u8 x)) (h0 : 0 ≤ x) (h1 : x < 128) (hf : x + p + 1 ≤ n) :
    Calls Tryz.prog 116 #[.pointer (some ⟨g, 0, none⟩)] w fun e w' => e = .returned (.tuple #[.int .i64 x, .int .i64 0]) ∧ Upd w w' g ∧ Rdr w' g b off n c (p + 1) := by
  have HR : Hid (Rdr w g b off n c p ∧ w.cell? ⟨b, off + p, none⟩ = some (.int .u8 x)) := ⟨hR, hx⟩
  have c1 : w.cell? ⟨g, 1, none⟩ = some (.int .i64 p) := hR.cell 1
  clear hR hx
  have n1 : ¬ x = 128 := by omega
  have n2 : ¬ x = 255 := by omega
  have b1 : (x != 128) = true := by simpa using n1
  have b2 : (x != 255) = true := by simpa using n2
  clear n1 n2
  go_enter Tryz.func116, Tryz.ntmps116
  go_wp2_with fail
  refine (next_any g b off n c p x HR.out.1 hp hn HR.out.2).mono ?_
  rintro e w1 ⟨rfl, hu, hr⟩
  have H1 : Hid (Upd w w1 g ∧ Rdr w1 g b off n c (p + 1)) := ⟨hu, hr⟩
  have d0 : w1.cell? ⟨g, 0, none⟩ = some (.slice (some ⟨b, off, none⟩) n c) := hr.cell 0
  have d1 : w1.cell? ⟨g, 1, none⟩ = some (.int .i64 ((p + 1 : Nat) : Int)) := hr.cell 1
  have hle : x ≤ (n : Int) - ((p + 1 : Nat) : Int) := by omega
  clear hu hr c1
  go_upto_region 11 with (fail)
  go_quiet (fail)
  go_wp2
  go_ret2
  refine ⟨rfl, ?_, H1.out.2⟩
  exact H1.out.1.trans ⟨rfl, rfl, rfl, Nat.le_refl _, fun _ _ _ => rfl⟩
set_option maxHeartbeats 1000000 in
theorem copied_any {w : World} (v : Value) (X : List Int) (hX : Sl .u8 w v X) (hl : X.length ≤ 16777216) :
    Calls Tryz.prog 98 #[v] w fun e w' => ∃ r, e = .returned r ∧ Row .u8 5 w.heap.size w' r X ∧ Below w.heap.size w w' := by
  obtain ⟨a, c, hv⟩ : ∃ a c, v = .slice a X.length c := by obtain ⟨a, c, h, h', _⟩ := hX; exact ⟨a, c, h⟩
  subst hv
  have HX : Hid (Sl .u8 w (.slice a X.length c) X) := hX
  clear hX
  go_enter Tryz.func98, Tryz.ntmps98
  go_wp2_with (at_builtin; refine wpList_ap rfl (.const (.slice none 0 0)) (.tmp 3) 22 22 rfl .u8 5 1 Tryz.und8 Tryz.info8 (by decide) w.heap.size _ [] rfl (Row.nil _ _ _ _) _ X rfl (src_sl Tryz.und8 HX.out) (by simp; omega) (Nat.le_refl _) ?_; intro v1 w1 hr hg)
  have hb := hg.below (Row.nil _ _ w.heap.size _) (Nat.le_refl _)
  go_ret
  exact ⟨_, rfl, hr, hb⟩
end Go.Proofs.YtillkhjihggcjaaGreatDoor
/-
  Der: a short element.
-/
namespace Go.Proofs.YtillkhjihggcjaaGreatDoor
open Go.RowKit
theorem rd_sl {w : World} {b c : Nat} {M : List Int} (hb : b < w.heap.size) (hr : Rd .u8 w b 0 M) (i j : Nat) (hij : i ≤ j) (hj : j ≤ M.length) (hc : j ≤ c) : Sl .u8 w (.slice (if c = i then some ⟨b, 0, none⟩ else some ⟨b, i, none⟩) (j - i) (c - i)) ((M.drop i).take (j - i)) := by
  have hl : ((M.drop i).take (j - i)).length = j - i := by rw [List.length_take, List.length_drop]; omega
  refine ⟨_, _, by rw [hl], by omega, ?_⟩
  by_cases h : c = i
  · exact .inl (List.eq_nil_of_length_eq_zero (by omega))
  · rw [if_neg h]
    refine .inr ⟨b, i, rfl, hb, fun k hk => ?_⟩
    have := hr (i + k) (by omega)
    rw [Nat.zero_add] at this
    rw [this, List.getD_eq_getElem?_getD, List.getD_eq_getElem?_getD, List.getElem?_take, if_pos (by omega), List.getElem?_drop]
theorem Row.upd {k : IntKind} {e : TypeId} {B : Nat} {w w' : World} {v : Value} {xs : List Int} {g : Nat} (h : Row k e B w v xs) (hu : Upd w w' g) (hg : g < B) : Row k e B w' v xs := by
  rcases h with h | ⟨b, S, rfl, h1, hA, h2⟩
  · exact .inl h
  · exact .inr ⟨b, S, rfl, h1, hu.arr hA (by omega), h2⟩
theorem Upd.more {w w1 w2 : World} {g m : Nat} (h1 : Upd w w1 g) (hu : Upd w1 w2 m) (hm : w.heap.size ≤ m) : Upd w w2 g :=
  ⟨hu.os.trans h1.os, hu.tape.trans h1.tape, hu.output.trans h1.output, Nat.le_trans h1.size hu.size, fun j hj hne => (hu.block j (Nat.lt_of_lt_of_le hj h1.size) (fun e => by simp at e; omega)).trans (h1.block j hj hne)⟩
theorem Below.upd {w w' : World} {g : Nat} (h : Below w.heap.size w w') : Upd w w' g := ⟨h.os, h.tape, h.output, h.size, fun j hj _ => h.block j hj⟩
set_option maxRecDepth 20000 in
set_option maxHeartbeats 2000000 in
theorem element_short {w : World} (g b n c p l : Nat) (M : List Int) (x cl tg y : Int) (hR : Rdr w g b 0 n c p) (hM : Rd .u8 w b 0 M) (hMl : M.length = n) (hn : n ≤ 16777216) (hnc : n ≤ c) (hb : b < w.heap.size) (hbg : b ≠ g)
    (hp : p + 2 + l ≤ n) (ex : M.getD p 0 = x) (el : M.getD (p + 1) 0 = l) (hl : l < 128)
    (e6 : x / 64 = cl) (e31 : bits .and .u8 x 31 = tg) (e32 : bits .and .u8 x 32 = y) (h0 : 0 ≤ cl) (h1 : cl ≤ 3) (h2 : 1 ≤ tg) (h3 : tg ≤ 30) :
    Calls Tryz.prog 96 #[.pointer (some ⟨g, 0, none⟩)] w fun e w' => ∃ d r, e = .returned (.tuple #[.agg #[.int .i64 cl, .int .i64 tg, .bool (y != 0), d, r], .int .i64 0]) ∧ Upd w w' g ∧ Rdr w' g b 0 n c (p + 2 + l) ∧ Row .u8 5 w.heap.size w' d ((M.drop (p + 2)).take l) ∧ Row .u8 5 w.heap.size w' r ((M.drop p).take (2 + l)) := by
  have HX : Hid (Rdr w g b 0 n c p ∧ Rd .u8 w b 0 M ∧ M.length = n ∧ M.getD p 0 = x ∧ M.getD (p + 1) 0 = l) := ⟨hR, hM, hMl, ex, el⟩
  have hgl := hR.lt
  have c1 : w.cell? ⟨g, 1, none⟩ = some (.int .i64 p) := hR.cell 1
  clear hR hM hMl ex el
  go_enter Tryz.func96, Tryz.ntmps96
  go_wp2_with fail
  refine (head_short g b 0 n c p x cl tg y (HX.out.1.alloc _) (by omega) hn ?_ ?_ e6 e31 e32 h0 h1 h2 h3).mono ?_
  · rw [(al1 _).cell (p := ⟨b, 0 + p, none⟩) hb, HX.out.2.1 p (by have := HX.out.2.2.1; omega), HX.out.2.2.2.1]
  · exact Nat.lt_of_lt_of_le hb (al1 _).size
  rintro e w1 ⟨rfl, hu, hr⟩
  have hB1 : Blk 24 w1 w.heap.size [.int .i64 0, .int .i64 0, .bool false, .slice none 0 0, .slice none 0 0] := hu.blk (Blk.new _ w _) (by omega)
  have H1 : Hid (Upd (w.alloc (.cells #[.int .i64 0, .int .i64 0, .bool false, .slice none 0 0, .slice none 0 0] 24)) w1 g ∧ Rdr w1 g b 0 n c (p + 1) ∧ Blk 24 w1 w.heap.size [.int .i64 0, .int .i64 0, .bool false, .slice none 0 0, .slice none 0 0]) := ⟨hu, hr, hB1⟩
  have d0 : w1.cell? ⟨w.heap.size, 0, none⟩ = some (.int .i64 0) := hB1.cell 0
  have d1 : w1.cell? ⟨w.heap.size, 1, none⟩ = some (.int .i64 0) := hB1.cell 1
  have d2 : w1.cell? ⟨w.heap.size, 2, none⟩ = some (.bool false) := hB1.cell 2
  have d3 : w1.cell? ⟨w.heap.size, 3, none⟩ = some (.slice none 0 0) := hB1.cell 3
  have d4 : w1.cell? ⟨w.heap.size, 4, none⟩ = some (.slice none 0 0) := hB1.cell 4
  have f0 := hB1.frozen 0
  have f1 := hB1.frozen 1
  have f2 := hB1.frozen 2
  have f3 := hB1.frozen 3
  have f4 := hB1.frozen 4
  clear hu hr hB1 c1
  go_upto_region 5 with (fail)
  refine wp_gen (fun W => Upd w1 W w.heap.size ∧ Blk 24 W w.heap.size [.int .i64 cl, .int .i64 tg, .bool (y != 0), .slice none 0 0, .slice none 0 0]) ⟨((((Upd.set _ _ _ _).trans (Upd.set _ _ _ _)).trans (Upd.set _ _ _ _)).trans (Upd.set _ _ _ _)).trans (Upd.set _ _ _ _), ((((H1.out.2.2.set 0 (.int .i64 cl)).set 1 (.int .i64 tg)).set 2 (.bool (y != 0))).set 3 (.slice none 0 0)).set 4 (.slice none 0 0)⟩ ?_
  rintro w2 ⟨hu2, hb2⟩
  clear d0 d1 d2 d3 d4 f0 f1 f2 f3 f4
  have H2 : Hid (Upd w w2 g ∧ Rdr w2 g b 0 n c (p + 1) ∧ Blk 24 w2 w.heap.size [.int .i64 cl, .int .i64 tg, .bool (y != 0), .slice none 0 0, .slice none 0 0] ∧ Rd .u8 w2 b 0 M) := by
    have h1 := H1.out.1.old hu2
    exact ⟨h1, hu2.blk H1.out.2.1 (by omega), hb2, h1.rd hb HX.out.2.1 hbg⟩
  clear hu2 hb2
  go_wp2_with fail
  refine (length_short g b 0 n c (p + 1) l H2.out.2.1 (by omega) hn ?_ (by omega) (by omega) (by omega)).mono ?_
  · rw [H2.out.2.2.2 (p + 1) (by have := HX.out.2.2.1; omega), HX.out.2.2.2.2]
  rintro e w3 ⟨rfl, hu3, hr3⟩
  obtain ⟨A, hA⟩ : ∃ A, p + 1 + 1 = A := ⟨_, rfl⟩
  obtain ⟨E, hE⟩ : ∃ E, A + l = E := ⟨_, rfl⟩
  have hEI : (A : Int) + (l : Int) = (E : Int) := by omega
  have HA : Hid (p + 1 + 1 = A ∧ A + l = E) := ⟨hA, hE⟩
  have hAE : A ≤ E := by omega
  have hEn : E ≤ n := by omega
  rw [hA] at hr3
  have r0 : w3.cell? ⟨g, 0, none⟩ = some (.slice (some ⟨b, 0, none⟩) n c) := hr3.cell 0
  have r1 : w3.cell? ⟨g, 1, none⟩ = some (.int .i64 (A : Int)) := hr3.cell 1
  have fr := hr3.frozen 1
  have H3 : Hid (Upd w w3 g ∧ Rdr w3 g b 0 n c A ∧ Blk 24 w3 w.heap.size [.int .i64 cl, .int .i64 tg, .bool (y != 0), .slice none 0 0, .slice none 0 0] ∧ Rd .u8 w3 b 0 M) := by
    have h1 := H2.out.1.trans hu3
    exact ⟨h1, hr3, hu3.blk H2.out.2.2.1 (by omega), h1.rd hb HX.out.2.1 hbg⟩
  clear hu3 hr3 hA hE
  go_upto_region 10 with (fail)
  refine wp_gen (fun W => Upd w W g ∧ Rdr W g b 0 n c E ∧ Blk 24 W w.heap.size [.int .i64 cl, .int .i64 tg, .bool (y != 0), .slice none 0 0, .slice none 0 0] ∧ Rd .u8 W b 0 M) ?_ ?_
  · have hu := Upd.set w3 g 1 (.int .i64 (E : Int))
    have h1 := H3.out.1.trans hu
    have h5 : Rdr (w3.setCell ⟨g, 1, none⟩ (.int .i64 (E : Int))) g b 0 n c E := H3.out.2.1.set 1 (.int .i64 (E : Int))
    rw [← hEI] at *
    exact ⟨h1, h5, hu.blk H3.out.2.2.1 (by omega), h1.rd hb HX.out.2.1 hbg⟩
  rintro w4 h4
  have H4 : Hid (Upd w w4 g ∧ Rdr w4 g b 0 n c E ∧ Blk 24 w4 w.heap.size [.int .i64 cl, .int .i64 tg, .bool (y != 0), .slice none 0 0, .slice none 0 0] ∧ Rd .u8 w4 b 0 M) := h4
  have q0 : w4.cell? ⟨g, 0, none⟩ = some (.slice (some ⟨b, 0, none⟩) n c) := h4.2.1.cell 0
  have q1 : w4.cell? ⟨g, 1, none⟩ = some (.int .i64 (E : Int)) := h4.2.1.cell 1
  have d3 : w4.cell? ⟨w.heap.size, 3, none⟩ = some (.slice none 0 0) := h4.2.2.1.cell 3
  have f3 := h4.2.2.1.frozen 3
  obtain ⟨ba, hba⟩ : ∃ ba : Option Addr, (if c = A then some ⟨b, 0, none⟩ else some ⟨b, A, none⟩) = ba := ⟨_, rfl⟩
  have HC : Hid (∀ W : World, Rd .u8 W b 0 M → b < W.heap.size → Sl .u8 W (.slice ba (E - A) (c - A)) ((M.drop (p + 2)).take l)) := fun W h hb' => by
    have h1 := HA.out
    have := rd_sl (c := c) hb' h A E hAE (by have := HX.out.2.2.1; omega) (by omega)
    have e : (M.drop (p + 2)).take l = (M.drop A).take (E - A) := by rw [show E - A = l by omega, show A = p + 2 by omega]
    rw [e, ← hba]; exact this
  have hAEI : (A : Int) ≤ (E : Int) := by omega
  have hEcI : (E : Int) ≤ (c : Int) := by omega
  have hb4 : b < w4.heap.size := Nat.lt_of_lt_of_le hb H4.out.1.size
  have hg4 : g < w4.heap.size := Nat.lt_of_lt_of_le hgl H4.out.1.size
  have hgw : ¬ g = w.heap.size := by omega
  have hwg : ¬ w.heap.size = g := by omega
  clear h4 r0 r1 fr hEI d3 f3
  refine wp_region_qsd 10 (by kernel_rfl) (by kernel_rfl) ?_
  simp only [List.take_succ_cons, List.take_zero, List.drop_succ_cons, List.drop_zero]
  repeat (go_big_quiet_step (fail))
  refine wpQuiet_nil ?_
  rintro _ ⟨q2, rfl⟩
  go_wp2_with fail
  refine (copied_any (w := w4.drewN q2) _ ((M.drop (p + 2)).take l) (HC.out _ (by exact H4.out.2.2.2) (by exact hb4)) (by rw [List.length_take]; omega)).mono ?_
  rintro e w5 ⟨r5, rfl, hr5, hb5⟩
  obtain ⟨a5, c5, hv5⟩ := hr5.ne
  obtain ⟨n5, hn5⟩ : ∃ n, ((M.drop (p + 2)).take l).length = n := ⟨_, rfl⟩
  rw [hn5] at hv5
  subst hv5
  clear hn5
  have hu5 : ∀ g', Upd w4 w5 g' := fun g' => Upd.trans (w' := w4.drewN q2) ⟨rfl, rfl, rfl, Nat.le_refl _, fun _ _ _ => rfl⟩ (Below.upd hb5)
  have hsz4 : w.heap.size < w4.heap.size := H4.out.2.2.1.lt
  have hB5 : Blk 24 w5 w.heap.size [.int .i64 cl, .int .i64 tg, .bool (y != 0), .slice none 0 0, .slice none 0 0] := (hu5 g).blk H4.out.2.2.1 (by omega)
  have H5 : Hid ((∀ g', Upd w4 w5 g') ∧ Blk 24 w5 w.heap.size [.int .i64 cl, .int .i64 tg, .bool (y != 0), .slice none 0 0, .slice none 0 0] ∧ Row .u8 5 w4.heap.size w5 (Value.slice a5 n5 c5) ((M.drop (p + 2)).take l)) := ⟨hu5, hB5, hr5⟩
  have d3 : w5.cell? ⟨w.heap.size, 3, none⟩ = some (.slice none 0 0) := hB5.cell 3
  have f3 := hB5.frozen 3
  clear hr5 hb5 hu5 hB5 q0 q1 hba
  go_upto_region 11 with (fail)
  refine wp_gen (fun W => Upd w W g ∧ Rdr W g b 0 n c E ∧ Blk 24 W w.heap.size [.int .i64 cl, .int .i64 tg, .bool (y != 0), (Value.slice a5 n5 c5), .slice none 0 0] ∧ Rd .u8 W b 0 M ∧ Row .u8 5 w4.heap.size W (Value.slice a5 n5 c5) ((M.drop (p + 2)).take l) ∧ w4.heap.size ≤ W.heap.size) ?_ ?_
  · have hu := Upd.set w5 w.heap.size 3 (Value.slice a5 n5 c5)
    have h1 : Upd w w5 g := H4.out.1.trans (H5.out.1 g)
    have h2 : Upd w (w5.setCell ⟨w.heap.size, 3, none⟩ (Value.slice a5 n5 c5)) g := ⟨hu.os.trans h1.os, hu.tape.trans h1.tape, hu.output.trans h1.output, Nat.le_trans h1.size hu.size, fun j hj hne => (hu.block j (Nat.lt_of_lt_of_le hj h1.size) (fun e => by simp at e; omega)).trans (h1.block j hj hne)⟩
    have h3 : Rdr w5 g b 0 n c E := (H5.out.1 w.heap.size).blk H4.out.2.1 (by omega)
    exact ⟨h2, hu.blk h3 (by omega), H5.out.2.1.set 3 (Value.slice a5 n5 c5), h2.rd hb HX.out.2.1 hbg, H5.out.2.2.upd hu hsz4, Nat.le_trans (H5.out.1 g).size hu.size⟩
  rintro w6 h6
  have H6 : Hid (Upd w w6 g ∧ Rdr w6 g b 0 n c E ∧ Blk 24 w6 w.heap.size [.int .i64 cl, .int .i64 tg, .bool (y != 0), (Value.slice a5 n5 c5), .slice none 0 0] ∧ Rd .u8 w6 b 0 M ∧ Row .u8 5 w4.heap.size w6 (Value.slice a5 n5 c5) ((M.drop (p + 2)).take l) ∧ w4.heap.size ≤ w6.heap.size) := h6
  have q0 : w6.cell? ⟨g, 0, none⟩ = some (.slice (some ⟨b, 0, none⟩) n c) := h6.2.1.cell 0
  have q1 : w6.cell? ⟨g, 1, none⟩ = some (.int .i64 (E : Int)) := h6.2.1.cell 1
  have HC2 : Hid (∀ W : World, Rd .u8 W b 0 M → b < W.heap.size → Sl .u8 W (.slice (some ⟨b, p, none⟩) (E - p) (c - p)) ((M.drop p).take (2 + l))) := fun W h hb' => by
    have h1 := HA.out
    have := rd_sl (c := c) hb' h p E (by omega) (by have := HX.out.2.2.1; omega) (by omega)
    have e : (M.drop p).take (2 + l) = (M.drop p).take (E - p) := by rw [show E - p = 2 + l by omega]
    rw [if_neg (by omega)] at this
    rw [e]; exact this
  have hpEI : (p : Int) ≤ (E : Int) := by have := HA.out; omega
  have hb6 : b < w6.heap.size := Nat.lt_of_lt_of_le hb H6.out.1.size
  clear h6 d3 f3
  refine wp_region_qsd 10 (by kernel_rfl) (by kernel_rfl) ?_
  simp only [List.take_succ_cons, List.take_zero, List.drop_succ_cons, List.drop_zero]
  repeat (go_big_quiet_step (fail))
  refine wpQuiet_nil ?_
  rintro _ ⟨q3, rfl⟩
  go_wp2_with fail
  refine (copied_any (w := w6.drewN q3) _ ((M.drop p).take (2 + l)) (HC2.out _ (by exact H6.out.2.2.2.1) (by exact hb6)) (by rw [List.length_take]; omega)).mono ?_
  rintro e w7 ⟨r7, rfl, hr7, hb7⟩
  obtain ⟨a7, c7, hv7⟩ := hr7.ne
  obtain ⟨n7, hn7⟩ : ∃ n, ((M.drop p).take (2 + l)).length = n := ⟨_, rfl⟩
  rw [hn7] at hv7
  subst hv7
  clear hn7
  have hu7 : ∀ g', Upd w6 w7 g' := fun g' => Upd.trans (w' := w6.drewN q3) ⟨rfl, rfl, rfl, Nat.le_refl _, fun _ _ _ => rfl⟩ (Below.upd hb7)
  have hB7 : Blk 24 w7 w.heap.size [.int .i64 cl, .int .i64 tg, .bool (y != 0), (Value.slice a5 n5 c5), .slice none 0 0] := (hu7 g).blk H6.out.2.2.1 (by omega)
  have hsz6 := H6.out.2.2.2.2.2
  have H7 : Hid ((∀ g', Upd w6 w7 g') ∧ Blk 24 w7 w.heap.size [.int .i64 cl, .int .i64 tg, .bool (y != 0), (Value.slice a5 n5 c5), .slice none 0 0] ∧ Row .u8 5 w6.heap.size w7 (Value.slice a7 n7 c7) ((M.drop p).take (2 + l)) ∧ Row .u8 5 w4.heap.size w7 (Value.slice a5 n5 c5) ((M.drop (p + 2)).take l)) := ⟨hu7, hB7, hr7, H6.out.2.2.2.2.1.below ⟨(hu7 g).os, (hu7 g).tape, (hu7 g).output, (hu7 g).size, fun j hj => (hu7 w6.heap.size).block j hj (fun e => by simp at e; omega)⟩⟩
  have d0 : w7.cell? ⟨w.heap.size, 0, none⟩ = some (.int .i64 cl) := hB7.cell 0
  have d1 : w7.cell? ⟨w.heap.size, 1, none⟩ = some (.int .i64 tg) := hB7.cell 1
  have d2 : w7.cell? ⟨w.heap.size, 2, none⟩ = some (.bool (y != 0)) := hB7.cell 2
  have d3 : w7.cell? ⟨w.heap.size, 3, none⟩ = some (Value.slice a5 n5 c5) := hB7.cell 3
  have d4 : w7.cell? ⟨w.heap.size, 4, none⟩ = some (.slice none 0 0) := hB7.cell 4
  have f0 := hB7.frozen 0
  have f1 := hB7.frozen 1
  have f2 := hB7.frozen 2
  have f3 := hB7.frozen 3
  have f4 := hB7.frozen 4
  clear hr7 hb7 hu7 hB7 q0 q1
  go_wp2
  have hB := (((((H7.out.2.1.set 4 (Value.slice a7 n7 c7)).set 0 (.int .i64 cl)).set 1 (.int .i64 tg)).set 2 (.bool (y != 0))).set 3 (Value.slice a5 n5 c5)).set 4 (Value.slice a7 n7 c7)
  have hU := (((((Upd.set w7 w.heap.size 4 (Value.slice a7 n7 c7)).trans (Upd.set _ _ 0 (.int .i64 cl))).trans (Upd.set _ _ 1 (.int .i64 tg))).trans (Upd.set _ _ 2 (.bool (y != 0)))).trans (Upd.set _ _ 3 (Value.slice a5 n5 c5))).trans (Upd.set _ _ 4 (Value.slice a7 n7 c7))
  have h6s := H6.out.2.2.2.2.2
  refine bodyPost_ret (results_blk2 rfl rfl hB Tryz.underlying24 rfl Tryz.sizeT rfl) rfl ⟨_, _, rfl, (H6.out.1.trans (H7.out.1 g)).more hU (Nat.le_refl _), ?_, ?_, ?_⟩
  · have h3 : Rdr w7 g b 0 n c E := (H7.out.1 w.heap.size).blk H6.out.2.1 (by omega)
    have := HA.out
    rw [show p + 2 + l = E by omega]
    exact hU.blk h3 (by omega)
  · exact (H7.out.2.2.2.upd hU hsz4).mono (by omega)
  · exact (H7.out.2.2.1.upd hU (by omega)).mono (by omega)
end Go.Proofs.YtillkhjihggcjaaGreatDoor
/-
  Der: the page's example of a row of elements.
-/
namespace Go.Proofs.YtillkhjihggcjaaGreatDoor
open Go.RowKit
abbrev zeroT : Value := .agg #[.int .i64 0, .int .i64 0, .bool false, .slice none 0 0, .slice none 0 0]
theorem Tryz.infoT : (Tryz.prog.info? 24).map (fun i => (i.zero, i.size, i.bytes)) = some (some zeroT, 5, 72) := by kernel_rfl
theorem Tryz.undT : Tryz.prog.underlying 66 = some (.slice 24) := by kernel_rfl
theorem src_m {P : Program} {tx e' T : TypeId} (hk : P.underlying tx = some (.slice e')) {w : World} {b : Nat} (m : Nat) {vs : List Value} (h : Blk T w b vs) (hl : vs.length = 1 * m) (ho : ∀ u ∈ vs, u.oneCell' = true) : Src P m tx (.slice (some ⟨b, 0, none⟩) 1 1) 1 vs w := by
  refine Src.ofSlice w hk _ _ _ _ hl (fun j u hj => ?_) ho
  have hadd : (⟨b, 0, none⟩ : Addr).add j = ⟨b, j, none⟩ := by simp [Addr.add] <;> omega
  rw [hadd, h.cell j, hj]
theorem blk_nw {e : TypeId} {w : World} {b : Nat} {cs : Array Value} {xs : List Value} (hb : b = w.heap.size) (h : cs = xs.toArray) : Blk e (w.alloc (.cells cs e)) b xs := by subst hb; subst h; exact Blk.new e w _
theorem MRow.upd {m : Nat} {e : TypeId} {B : Nat} {w w' : World} {v : Value} {n : Nat} {xs : List Value} {g : Nat} (h : MRow m e B w v n xs) (hu : Upd w w' g) (hg : g < B) : MRow m e B w' v n xs := by
  obtain ⟨h0, h⟩ := h
  refine ⟨h0, ?_⟩
  rcases h with h | ⟨b, S, c, rfl, h1, hA, h2⟩
  · exact .inl h
  · exact .inr ⟨b, S, c, rfl, h1, hu.blk hA (by omega), h2⟩
theorem MRow.at {m : Nat} {e : TypeId} {B : Nat} {w : World} {v : Value} {n : Nat} {xs : List Value} (h : MRow m e B w v n xs) (hn : 0 < n) : ∃ b c, v = .slice (some ⟨b, 0, none⟩) n c ∧ n ≤ c ∧ B ≤ b ∧ b < w.heap.size ∧ ∀ i, i < n * m → w.cell? ⟨b, i, none⟩ = xs[i]? := by
  obtain ⟨h0, h⟩ := h
  rcases h with ⟨_, h⟩ | ⟨b, S, c, rfl, h1, hA, h2, h3, h4, h5⟩
  · omega
  · refine ⟨b, c, rfl, h3, h1, hA.lt, fun i hi => ?_⟩
    rw [hA.cell i, ← h4, List.getElem?_take, if_pos hi]
theorem Row.mgrew {B : Nat} {w w' : World} {v u : Value} {xs : List Int} (h : Row .u8 5 B w v xs) (hg : MGrew 24 w w' u) : Row .u8 5 B w' v xs := by
  rcases hg with hg | ⟨b', n, c, S', _, hB, hU⟩
  · exact h.below hg
  · rcases h with h | ⟨b, S, rfl, h1, hA, h2⟩
    · exact .inl h
    · refine .inr ⟨b, S, rfl, h1, hU.arr hA (fun e => ?_), h2⟩
      subst e
      unfold Arr at hA
      unfold Blk at hB
      rw [hA] at hB
      simp at hB
theorem tlv_one (a b : Int) (c : Bool) (a1 a2 : Option Addr) (n1 n2 c1 c2 : Nat) : ∀ u ∈ [Value.int .i64 a, .int .i64 b, .bool c, .slice a1 n1 c1, .slice a2 n2 c2], u.oneCell' = true := by
  intro u hu
  simp only [List.mem_cons, List.not_mem_nil, or_false] at hu
  rcases hu with rfl | rfl | rfl | rfl | rfl <;> rfl
def exM : List Int := [2, 1, 5, 48, 2, 5, 0]
set_option maxRecDepth 20000 in
set_option maxHeartbeats 4000000 in
theorem Split_live {w : World} (b : Nat) (hA : Arr .u8 5 w b exM) :
    Calls Tryz.prog 75 #[.slice (some ⟨b, 0, none⟩) 7 7] w fun e w' => ∃ bl cl bd cd, e = .returned (.tuple #[.slice (some ⟨bl, 0, none⟩) 2 cl, .int .i64 0, .int .i64 7]) ∧ 2 ≤ cl ∧ w'.cell? ⟨bl, 1, none⟩ = some (.int .i64 2) ∧ w'.cell? ⟨bl, 7, none⟩ = some (.bool true) ∧ w'.cell? ⟨bl, 8, none⟩ = some (.slice (some ⟨bd, 0, none⟩) 2 cd) ∧ Row .u8 5 w.heap.size w' (.slice (some ⟨bd, 0, none⟩) 2 cd) [5, 0] ∧ Below w.heap.size w w' := by
  have hb := hA.lt
  have hM : Rd .u8 w b 0 exM := hA.rd 0 7 (by simp [exM])
  have HX : Hid (Rd .u8 w b 0 exM) := hM
  clear hA hM
  go_enter Tryz.func75, Tryz.ntmps75
  go_wp2_with fail
  refine wp_gen (fun W => Rdr W w.heap.size b 0 7 7 0 ∧ Below w.heap.size w W) ⟨Blk.new _ w _, al1 _⟩ ?_
  rintro v1 hv1
  have H1 : Hid (Rdr v1 w.heap.size b 0 7 7 0 ∧ Below w.heap.size w v1) := ⟨hv1.1, hv1.2⟩
  have g1 : v1.cell? ⟨w.heap.size, 1, none⟩ = some (.int .i64 0) := hv1.1.cell 1
  clear hv1
  refine wp_loop_rounds 3 ?_
  rw [rounds_succ]
  go_wp2_with fail
  refine (element_short w.heap.size b 7 7 0 1 exM 2 0 2 0 H1.out.1 (below_rd H1.out.2 hb HX.out) rfl (by omega) (by omega) (Nat.lt_of_lt_of_le hb H1.out.2.size) (by omega) (by omega) rfl rfl (by omega) (by decide) (by decide +kernel) (by decide +kernel) (by decide) (by decide) (by decide) (by decide)).mono ?_
  rintro e v2 ⟨d, r, rfl, hu, hr, hd, hrw⟩
  obtain ⟨ad, cd, hv⟩ := hd.ne
  rw [show ((exM.drop (0 + 2)).take 1).length = 1 from rfl] at hv
  subst hv
  obtain ⟨ar, cr, hv⟩ := hrw.ne
  rw [show ((exM.drop 0).take (2 + 1)).length = 3 from rfl] at hv
  subst hv
  have hs1 : w.heap.size < v1.heap.size := H1.out.1.lt
  have H2 : Hid (Rdr v2 w.heap.size b 0 7 7 3 ∧ Below w.heap.size w v2 ∧ w.heap.size < v2.heap.size) := ⟨hr, ⟨hu.os.trans H1.out.2.os, hu.tape.trans H1.out.2.tape, hu.output.trans H1.out.2.output, Nat.le_trans H1.out.2.size hu.size, fun j hj => (hu.block j (by omega) (fun e => by simp at e; omega)).trans (H1.out.2.block j hj)⟩, hr.lt⟩
  clear hu hr hd hrw g1
  go_wp2_with (at_builtin; refine wpList_apm rfl (.tmp 32) (.tmp 34) 66 66 rfl 5 zeroT rfl 24 72 Tryz.undT Tryz.infoT (by decide) (w.heap.size + 1) _ 0 [] rfl (MRow.nil _ _ _ _) _ 1 [.int .i64 0, .int .i64 2, .bool false, .slice ad 1 cd, .slice ar 3 cr] rfl (src_m (T := 24) Tryz.undT 5 (blk_nw (by simp) rfl) rfl (tlv_one _ _ _ _ _ _ _ _ _)) (by decide) (by have := H2.out.2.2; simp; omega) ?_; intro v v3 hr hg)
  have hb3 : Below (w.heap.size + 1) _ v3 := hg.below (MRow.nil 5 _ (w.heap.size + 1) _) (by have := H2.out.2.2; simp; omega)
  have hb23 : Below (w.heap.size + 1) v2 v3 := (((Below.refl _ _).alloc (by have := H2.out.2.2; omega) _).alloc (by have := H2.out.2.2; simp; omega) _).trans hb3
  have H3 : Hid (MRow 5 24 (w.heap.size + 1) v3 v 1 [.int .i64 0, .int .i64 2, .bool false, .slice ad 1 cd, .slice ar 3 cr] ∧ Rdr v3 w.heap.size b 0 7 7 3 ∧ Below w.heap.size w v3 ∧ w.heap.size < v3.heap.size) := ⟨hr, below_blk hb23 (by omega) H2.out.1, H2.out.2.1.trans (hb23.mono (by omega)), Nat.lt_of_lt_of_le H2.out.2.2 hb23.size⟩
  obtain ⟨al, cl, hv⟩ := hr.ne
  rw [Nat.zero_add] at hv
  subst hv
  have g1 : v3.cell? ⟨w.heap.size, 1, none⟩ = some (.int .i64 3) := H3.out.2.1.cell 1
  clear hr hg hb3 hb23
  rw [rounds_succ]
  go_wp2_with fail
  refine (element_short w.heap.size b 7 7 3 2 exM 48 0 16 32 H3.out.2.1 (below_rd H3.out.2.2.1 hb HX.out) rfl (by omega) (by omega) (Nat.lt_of_lt_of_le hb H3.out.2.2.1.size) (by omega) (by omega) rfl rfl (by omega) (by decide) (by decide +kernel) (by decide +kernel) (by decide) (by decide) (by decide) (by decide)).mono ?_
  rintro e v4 ⟨d, r, rfl, hu, hr, hd, hrw⟩
  obtain ⟨bd2, cd2, hv, _⟩ := hd.open 2 rfl (by omega)
  have hd' := hd
  subst hv
  obtain ⟨ar2, cr2, hv⟩ := hrw.ne
  rw [show ((exM.drop 3).take (2 + 2)).length = 4 from rfl] at hv
  subst hv
  have hs3 : w.heap.size < v3.heap.size := H3.out.2.2.2
  have H4 : Hid (Rdr v4 w.heap.size b 0 7 7 7 ∧ Below w.heap.size w v4 ∧ w.heap.size < v4.heap.size ∧ MRow 5 24 (w.heap.size + 1) v4 (.slice al 1 cl) 1 [.int .i64 0, .int .i64 2, .bool false, .slice ad 1 cd, .slice ar 3 cr] ∧ Row .u8 5 v3.heap.size v4 (.slice (some ⟨bd2, 0, none⟩) 2 cd2.length) [5, 0]) := ⟨hr, ⟨hu.os.trans H3.out.2.2.1.os, hu.tape.trans H3.out.2.2.1.tape, hu.output.trans H3.out.2.2.1.output, Nat.le_trans H3.out.2.2.1.size hu.size, fun j hj => (hu.block j (by omega) (fun e => by simp at e; omega)).trans (H3.out.2.2.1.block j hj)⟩, hr.lt, H3.out.1.upd hu (by omega), hd'⟩
  clear hu hr hd hrw g1 hd'
  obtain ⟨k2, hk2⟩ : ∃ k, cd2.length = k := ⟨_, rfl⟩
  rw [hk2] at H4
  simp only [hk2]
  clear hk2
  go_wp2_with (at_builtin; refine wpList_apm rfl (.tmp 32) (.tmp 34) 66 66 rfl 5 zeroT rfl 24 72 Tryz.undT Tryz.infoT (by decide) (w.heap.size + 1) _ 1 _ rfl ((H4.out.2.2.2.1.alloc _).alloc _) _ 1 [.int .i64 0, .int .i64 16, .bool true, .slice (some ⟨bd2, 0, none⟩) 2 k2, .slice ar2 4 cr2] rfl (src_m (T := 24) Tryz.undT 5 (blk_nw (by simp) rfl) rfl (tlv_one _ _ _ _ _ _ _ _ _)) (by decide) (by have := H4.out.2.2.1; simp; omega) ?_; intro v v5 hr hg)
  have hb5 : Below (w.heap.size + 1) _ v5 := hg.below ((H4.out.2.2.2.1.alloc _).alloc _) (by have := H4.out.2.2.1; simp; omega)
  have hb45 : Below (w.heap.size + 1) v4 v5 := (((Below.refl _ _).alloc (by have := H4.out.2.2.1; omega) _).alloc (by have := H4.out.2.2.1; simp; omega) _).trans hb5
  obtain ⟨bl, cl2, hv, hc2, hbl, hbv, hcells⟩ := hr.at (by omega)
  subst hv
  have e1 : v5.cell? ⟨bl, 1, none⟩ = some (.int .i64 2) := hcells 1 (by omega)
  have e7 : v5.cell? ⟨bl, 7, none⟩ = some (.bool true) := hcells 7 (by omega)
  have e8 : v5.cell? ⟨bl, 8, none⟩ = some (.slice (some ⟨bd2, 0, none⟩) 2 k2) := hcells 8 (by omega)
  have hrow : Row .u8 5 v3.heap.size v5 (.slice (some ⟨bd2, 0, none⟩) 2 k2) [5, 0] := ((H4.out.2.2.2.2.alloc _).alloc _).mgrew hg
  have H5 : Hid (Rdr v5 w.heap.size b 0 7 7 7 ∧ Below w.heap.size w v5 ∧ Row .u8 5 w.heap.size v5 (.slice (some ⟨bd2, 0, none⟩) 2 k2) [5, 0] ∧ 2 ≤ cl2 ∧ v5.cell? ⟨bl, 1, none⟩ = some (.int .i64 2) ∧ v5.cell? ⟨bl, 7, none⟩ = some (.bool true) ∧ v5.cell? ⟨bl, 8, none⟩ = some (.slice (some ⟨bd2, 0, none⟩) 2 k2)) := ⟨below_blk hb45 (by omega) H4.out.1, H4.out.2.1.trans (hb45.mono (by omega)), hrow.mono (by omega), hc2, e1, e7, e8⟩
  have g1 : v5.cell? ⟨w.heap.size, 1, none⟩ = some (.int .i64 7) := H5.out.1.cell 1
  clear hr hg hb5 hb45 hcells e1 e7 e8 hrow hc2 hbl hbv
  rw [rounds_succ]
  go_upto_region 11 with (fail)
  go_quiet (fail)
  go_wp2
  go_ret3
  exact ⟨bl, cl2, bd2, k2, rfl, H5.out.2.2.2.1, H5.out.2.2.2.2.1, H5.out.2.2.2.2.2.1, H5.out.2.2.2.2.2.2, H5.out.2.2.1, below_drewN _ H5.out.2.1⟩
end Go.Proofs.YtillkhjihggcjaaGreatDoor
/-
  Der: the page's example of an object identifier, its numbers.
-/
namespace Go.Proofs.YtillkhjihggcjaaGreatDoor
open Go.RowKit
theorem Tryz.und64 : Tryz.prog.underlying 148 = some (.slice 136) := by kernel_rfl
theorem Tryz.info64 : (Tryz.prog.info? 136).map (fun i => (i.zero, i.size, i.bytes)) = some (some (.int .u64 0), 1, 8) := by kernel_rfl
theorem new64 {w : World} {e : TypeId} (x : Int) : Sl .u64 (w.alloc (.cells #[.int .u64 x] e)) (.slice (some ⟨w.heap.size, 0, none⟩) 1 1) [x] := new_sl [x] (0, 0)
theorem and7_42 : bits .and .u8 42 127 = 42 := by decide +kernel
theorem and7_134 : bits .and .u8 134 127 = 6 := by decide +kernel
theorem and7_72 : bits .and .u8 72 127 = 72 := by decide +kernel
theorem or_42 : bits .or .u64 0 42 = 42 := by decide +kernel
theorem or_6 : bits .or .u64 0 6 = 6 := by decide +kernel
theorem or_840 : bits .or .u64 768 72 = 840 := by decide +kernel
set_option maxRecDepth 20000 in
set_option maxHeartbeats 2000000 in
theorem laidArcs_live {w : World} (b : Nat) (hA : Arr .u8 5 w b [42, 134, 72]) :
    Calls Tryz.prog 111 #[.slice (some ⟨b, 0, none⟩) 3 3] w fun e w' => ∃ r, e = .returned (.tuple #[r, .bool true]) ∧ Row .u64 136 w.heap.size w' r [42, 840] ∧ Below w.heap.size w w' := by
  have hb := hA.lt
  have c0 : w.cell? ⟨b, 0, none⟩ = some (.int .u8 42) := hA.cell 0 (by simp)
  have c1 : w.cell? ⟨b, 1, none⟩ = some (.int .u8 134) := hA.cell 1 (by simp)
  have c2 : w.cell? ⟨b, 2, none⟩ = some (.int .u8 72) := hA.cell 2 (by simp)
  have HA : Hid (Arr .u8 5 w b [42, 134, 72]) := hA
  have a1 := and7_42
  have a2 := and7_134
  have a3 := and7_72
  have o1 := or_42
  have o2 := or_6
  have o3 := or_840
  clear hA
  go_enter Tryz.func111, Tryz.ntmps111
  go_wp2_with fail
  refine wp_loop_rounds 4 ?_
  rw [rounds_succ]
  go_wp2_with (at_builtin; refine wpList_ap rfl (.tmp 29) (.tmp 31) 148 148 rfl .u64 136 8 Tryz.und64 Tryz.info64 (by decide) w.heap.size _ [] rfl (Row.nil _ _ _ _) _ [42] rfl (src_sl Tryz.und64 (new64 42)) (by decide) (by simp) ?_; intro v1 w1 hr hg)
  have hb1 : Below w.heap.size w w1 := (al1 _).trans (hg.below (Row.nil _ _ w.heap.size _) (by simp))
  obtain ⟨a1', k1, hv⟩ := hr.ne
  replace hv : v1 = .slice a1' 1 k1 := hv
  subst hv
  have H1 : Hid (Row .u64 136 w.heap.size w1 (.slice a1' 1 k1) [42] ∧ Below w.heap.size w w1) := ⟨hr, hb1⟩
  replace c1 : w1.cell? ⟨b, 1, none⟩ = some (.int .u8 134) := by rw [hb1.cell (p := ⟨b, 1, none⟩) hb]; exact c1
  replace c2 : w1.cell? ⟨b, 2, none⟩ = some (.int .u8 72) := by rw [hb1.cell (p := ⟨b, 2, none⟩) hb]; exact c2
  clear hr hg hb1 c0
  rw [rounds_succ]
  go_wp2_with fail
  rw [rounds_succ]
  go_wp2_with (at_builtin; refine wpList_ap rfl (.tmp 29) (.tmp 31) 148 148 rfl .u64 136 8 Tryz.und64 Tryz.info64 (by decide) w.heap.size _ [42] rfl (H1.out.1.alloc _) _ [840] rfl (src_sl Tryz.und64 (new64 840)) (by decide) (by have := H1.out.2.size; simp; omega) ?_; intro v2 w2 hr hg)
  have hb2 : Below w.heap.size w w2 := (H1.out.2.alloc H1.out.2.size _).trans (hg.below (H1.out.1.alloc _) (by have := H1.out.2.size; simp; omega))
  obtain ⟨a2', k2, hv⟩ := hr.ne
  replace hv : v2 = .slice a2' 2 k2 := hv
  subst hv
  have H2 : Hid (Row .u64 136 w.heap.size w2 (.slice a2' 2 k2) [42, 840] ∧ Below w.heap.size w w2) := ⟨hr, hb2⟩
  clear hr hg hb2 c1 c2
  rw [rounds_succ]
  go_wp2
  go_ret2
  exact ⟨_, rfl, H2.out.1, H2.out.2⟩
end Go.Proofs.YtillkhjihggcjaaGreatDoor
