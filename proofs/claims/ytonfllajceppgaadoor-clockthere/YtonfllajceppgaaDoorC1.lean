/-
  Clock: days ahead of a year and of a month; the day of a number of days.
-/
import Derived.Test.YtonfllajceppgaaDoorC0
import Derived.Test.YtonfllajceppgaaDoorE0n
import Derived.Laws.MathBits
import Derived.Deep.CutRange
import Derived.BigQuiet
import Derived.Deep.QuietTactic
namespace Go.Proofs.YtonfllajceppgaaDoor
open Go.RowKit
theorem wp_gen {P : Program} {c : Code} {Q : Exit → Act → World → Prop} {a : Act} {W : World} (R : World → Prop) (hR : R W) (h : ∀ W', R W' → Code.wp P c Q a W') : Code.wp P c Q a W := h W hR
theorem results_blk2 {P : Program} {fn : Func} {T : TypeId} {t u : Tmp} (h : fn.results = #[.cell t T, .tmp u]) {a : Array Value} {w : World} {b : Nat} {cs : List Value} {d : TypeDesc} {v : Value} (ha : a.getD t undef = .pointer (some ⟨b, 0, none⟩))
    (hb : Blk T w b cs) (hu : P.underlying T = some d) (hd : d.isRow = true) (hi : (P.info? T).map (·.size) = some cs.length) (hv : a.getD u undef = v) : (results fn a).run P w = .ok (.tuple #[.agg cs.toArray, v]) w := by
  have := run_loadVar_mid (P := P) w b 0 T cs d hb.whole hu hd hi
  have ha' : a[t]?.getD undef = .pointer (some ⟨b, 0, none⟩) := by simpa using ha
  have hv' : a[u]?.getD undef = v := by simpa using hv
  simp [results, h, ha', asAddr, this, hv']
theorem Tryd.sizeMo : (Tryd.prog.info? 40).map (·.size) = some 6 := by kernel_rfl
/-- the cells of a moment -/
def Mo.cells (t : Mo) : List Value := [.int .i64 t.Y, .int .i64 t.M, .int .i64 t.D, .int .i64 t.h, .int .i64 t.m, .int .i64 t.s]
theorem Mo.facts {w : World} {b : Nat} {t : Mo} (h : Blk 40 w b t.cells) :
    w.cell? ⟨b, 0, none⟩ = some (.int .i64 t.Y) ∧ w.cell? ⟨b, 1, none⟩ = some (.int .i64 t.M) ∧ w.cell? ⟨b, 2, none⟩ = some (.int .i64 t.D) ∧ w.cell? ⟨b, 3, none⟩ = some (.int .i64 t.h) ∧ w.cell? ⟨b, 4, none⟩ = some (.int .i64 t.m) ∧ w.cell? ⟨b, 5, none⟩ = some (.int .i64 t.s) ∧
    w.frozen? ⟨b, 0, none⟩ = false ∧ w.frozen? ⟨b, 1, none⟩ = false ∧ w.frozen? ⟨b, 2, none⟩ = false ∧ w.frozen? ⟨b, 3, none⟩ = false ∧ w.frozen? ⟨b, 4, none⟩ = false ∧ w.frozen? ⟨b, 5, none⟩ = false :=
  ⟨h.cell 0, h.cell 1, h.cell 2, h.cell 3, h.cell 4, h.cell 5, h.frozen 0, h.frozen 1, h.frozen 2, h.frozen 3, h.frozen 4, h.frozen 5⟩
theorem Mo.put {w : World} {b : Nat} {t : Mo} (h : Blk 40 w b t.cells) (Y M D h' m s : Int) :
    Blk 40 ((((((w.setCell ⟨b, 0, none⟩ (.int .i64 Y)).setCell ⟨b, 1, none⟩ (.int .i64 M)).setCell ⟨b, 2, none⟩ (.int .i64 D)).setCell ⟨b, 3, none⟩ (.int .i64 h')).setCell ⟨b, 4, none⟩ (.int .i64 m)).setCell ⟨b, 5, none⟩ (.int .i64 s)) b (Mo.cells ⟨Y, M, D, h', m, s⟩) ∧
    Upd w ((((((w.setCell ⟨b, 0, none⟩ (.int .i64 Y)).setCell ⟨b, 1, none⟩ (.int .i64 M)).setCell ⟨b, 2, none⟩ (.int .i64 D)).setCell ⟨b, 3, none⟩ (.int .i64 h')).setCell ⟨b, 4, none⟩ (.int .i64 m)).setCell ⟨b, 5, none⟩ (.int .i64 s)) b :=
  ⟨(((((h.set 0 (.int .i64 Y)).set 1 (.int .i64 M)).set 2 (.int .i64 D)).set 3 (.int .i64 h')).set 4 (.int .i64 m)).set 5 (.int .i64 s),
   (((((Upd.set w b 0 _).trans (Upd.set _ b 1 _)).trans (Upd.set _ b 2 _)).trans (Upd.set _ b 3 _)).trans (Upd.set _ b 4 _)).trans (Upd.set _ b 5 _)⟩
theorem yearBegins_any {w : World} (y : Int) (h0 : 0 ≤ y) (h1 : y ≤ 1000000) : Calls Tryd.prog 49 #[.int .i64 y] w fun e w' => e = .returned (.int .i64 (yb y)) ∧ w = w' := by
  go_enter Tryd.func49, Tryd.ntmps49
  go_wp2
  go_ret
  exact ⟨rfl, rfl⟩
theorem monthBegins_any {w : World} (k : Int) (h0 : 0 ≤ k) (h1 : k ≤ 1000000) : Calls Tryd.prog 50 #[.int .i64 k] w fun e w' => e = .returned (.int .i64 (mb k)) ∧ w = w' := by
  go_enter Tryd.func50, Tryd.ntmps50
  go_wp2
  go_ret
  exact ⟨rfl, rfl⟩
theorem yb_nn {y : Int} (h : 0 ≤ y) : 0 ≤ yb y := by
  have e1 : y / 100 ≤ y := by omega
  have e2 : 0 ≤ y / 400 := by omega
  have e3 : 0 ≤ y / 4 := by omega
  unfold yb; omega
theorem yb_366 {day : Int} (h : 0 ≤ day) : yb (day / 366) ≤ day := by
  have e : 366 * (day / 366) ≤ day := by omega
  have f : 0 ≤ day / 366 := by omega
  generalize day / 366 = y at *
  unfold yb; omega
/-- a day is told -/
structure DayIs (day Y M D : Int) : Prop where
  sum : ys Y + ms Y M + (D - 1) = day - 146037
  m0 : 1 ≤ M
  m1 : M ≤ 12
  d0 : 1 ≤ D
  d1 : D ≤ ml Y M
set_option maxHeartbeats 1000000 in
theorem dayAt_any {w : World} (day : Int) (h0 : 0 ≤ day) (h1 : day ≤ 10000000) : Calls Tryd.prog 36 #[.int .i64 day] w fun e w' =>
    ∃ Y M D, e = .returned (.agg #[.int .i64 Y, .int .i64 M, .int .i64 D, .int .i64 0, .int .i64 0, .int .i64 0]) ∧ DayIs day Y M D ∧ Below w.heap.size w w' := by
  have HQ : Hid (0 ≤ day / 366 ∧ day / 366 ≤ 100000 ∧ yb (day / 366) ≤ day) := ⟨by omega, by omega, yb_366 h0⟩
  go_enter Tryd.func36, Tryd.ntmps36
  go_wp2_with fail
  refine wp_gen (fun W => Below w.heap.size w W ∧ Blk 40 W w.heap.size (Mo.cells ⟨0, 0, 0, 0, 0, 0⟩)) ⟨al1 _, Blk.new _ w _⟩ ?_
  rintro w1 ⟨hb, hB⟩
  have HW : Hid (Below w.heap.size w w1 ∧ Blk 40 w1 w.heap.size (Mo.cells ⟨0, 0, 0, 0, 0, 0⟩)) := ⟨hb, hB⟩
  clear hb hB
  go_loopw [3] (fun yv wr => ∃ y : Int, yv = .int .i64 y ∧ 0 ≤ y ∧ y ≤ 100000 ∧ yb y ≤ day ∧ w1 = wr) (fun yv _ => (day - intOf yv).toNat)
  case atStart => exact ⟨day / 366, rfl, HQ.out.1, HQ.out.2.1, HQ.out.2.2, rfl⟩
  case round =>
    obtain ⟨y, rfl, y0, y1, hy, rfl⟩ := hrel
    obtain ⟨z, hz⟩ : ∃ z, yb (y + 1) = z := ⟨_, rfl⟩
    have hz1 : z ≤ 40000000 ∧ 0 ≤ z ∧ y < z := by rw [← hz]; unfold yb; omega
    obtain ⟨z1, z0, zy⟩ := hz1
    have HL : Hid (0 ≤ y + 1 ∧ (z ≤ day → y + 1 ≤ 100000)) := by
      refine ⟨by omega, fun h => ?_⟩
      unfold yb at hz; omega
    have HL2 : Hid (z ≤ day → (day - (y + 1)).toNat < (day - y).toNat) := fun h => by omega
    by_cases hlt : z ≤ day
    · go_wp2_with (go_at_call 49; refine (yearBegins_any (y + 1) (by omega) (by omega)).mono ?_; rintro e w' ⟨rfl, rfl⟩; rw [hz])
      refine ⟨⟨y + 1, rfl, HL.out.1, HL.out.2 hlt, by rw [hz]; exact hlt, trivial⟩, HL2.out hlt⟩
    · obtain ⟨x, hx⟩ : ∃ x, yb y = x := ⟨_, rfl⟩
      have hx0 : 0 ≤ x ∧ x ≤ day ∧ day - x ≤ 366 := by
        have e1 := yb_step y
        have e2 := yb_nn y0
        omega
      obtain ⟨x0, x1, x2⟩ := hx0
      obtain ⟨q, hq⟩ : ∃ q, day - x = q := ⟨_, rfl⟩
      have q0 : 0 ≤ q := by omega
      have q1 : q ≤ 366 := by omega
      have HY : Hid (yb y = x ∧ yb (y + 1) = z ∧ day < z) := ⟨hx, hz, by omega⟩
      go_wp2_with fail
      refine (yearBegins_any (y + 1) (by omega) (by omega)).mono ?_
      rintro e w' ⟨rfl, rfl⟩
      rw [hz]
      go_wp2_with fail
      refine (yearBegins_any y (by omega) (by omega)).mono ?_
      rintro e w' ⟨rfl, rfl⟩
      rw [hx]
      go_wp2_with fail
      have HM : Hid (0 ≤ q / 31 ∧ q / 31 ≤ 11 ∧ mb (q / 31) ≤ q) := ⟨by omega, by omega, by unfold mb; omega⟩
      go_loopw [4] (fun kv wr => ∃ k : Int, kv = .int .i64 k ∧ 0 ≤ k ∧ k ≤ 11 ∧ mb k ≤ q ∧ w1 = wr) (fun kv _ => (20 - intOf kv).toNat)
      case atStart => exact ⟨q / 31, rfl, HM.out.1, HM.out.2.1, HM.out.2.2, rfl⟩
      case round =>
        obtain ⟨k, rfl, k0, k1, hk, rfl⟩ := hrel
        obtain ⟨t, ht⟩ : ∃ t, mb (k + 1) = t := ⟨_, rfl⟩
        have ht1 : t ≤ 1000 ∧ 0 ≤ t := by rw [← ht]; unfold mb; omega
        obtain ⟨t1, t0⟩ := ht1
        have HL : Hid (0 ≤ k + 1 ∧ (t ≤ q → k + 1 ≤ 11) ∧ (20 - (k + 1)).toNat < (20 - k).toNat) := by
          refine ⟨by omega, fun h => ?_, by omega⟩
          unfold mb at ht; omega
        by_cases hlt2 : t ≤ q
        · go_wp2_with fail
          refine (monthBegins_any (k + 1) (by omega) (by omega)).mono ?_
          rintro e w' ⟨rfl, rfl⟩
          rw [ht]
          go_wp2
          refine ⟨⟨k + 1, rfl, HL.out.1, HL.out.2.1 hlt2, by rw [ht]; exact hlt2, trivial⟩, HL.out.2.2⟩
        · obtain ⟨v, hv⟩ : ∃ v, mb k = v := ⟨_, rfl⟩
          have hv0 : 0 ≤ v ∧ v ≤ q := by rw [← hv]; refine ⟨?_, hk⟩; unfold mb; omega
          obtain ⟨v0, v1⟩ := hv0
          have HD := mar_day (day := day) (y := y) (k := k) hy (by rw [hz]; omega) (by rw [hv, hx]; omega) (by rw [ht, hx]; omega) k0
          have HD' : Hid _ := HD
          clear HD
          go_wp2_with fail
          refine (monthBegins_any (k + 1) (by omega) (by omega)).mono ?_
          rintro e w' ⟨rfl, rfl⟩
          rw [ht]
          go_wp2_with fail
          refine (monthBegins_any k (by omega) (by omega)).mono ?_
          rintro e w' ⟨rfl, rfl⟩
          rw [hv]
          obtain ⟨d0, d1, d2, d3, d4, d5, f0, f1, f2, f3, f4, f5⟩ := Mo.facts HW.out.2
          by_cases h12 : k + 3 ≤ 12
          · go_wp2
            obtain ⟨hF, hU⟩ := Mo.put HW.out.2 (y - 400) (k + 3) (q - v + 1) 0 0 0
            refine bodyPost_ret (v := .agg (Mo.cells ⟨y - 400, k + 3, q - v + 1, 0, 0, 0⟩).toArray) (results_blk (b := w.heap.size) (cs := Mo.cells ⟨y - 400, k + 3, q - v + 1, 0, 0, 0⟩) rfl rfl hF Tryd.underlying40 rfl Tryd.sizeMo) rfl ⟨y - 400, k + 3, q - v + 1, rfl, ?_, hU.below HW.out.1 HW.out.1.size (Nat.le_refl _)⟩
            obtain ⟨e1, e2, e3⟩ := HD'.out.2.1 h12
            rw [hx, hv] at e1 e2 e3
            exact ⟨by omega, by omega, by omega, by omega, by omega⟩
          · go_wp2
            obtain ⟨hF, hU⟩ := Mo.put HW.out.2 (y - 400 + 1) (k + 3 - 12) (q - v + 1) 0 0 0
            refine bodyPost_ret (v := .agg (Mo.cells ⟨y - 400 + 1, k + 3 - 12, q - v + 1, 0, 0, 0⟩).toArray) (results_blk (b := w.heap.size) (cs := Mo.cells ⟨y - 400 + 1, k + 3 - 12, q - v + 1, 0, 0, 0⟩) rfl rfl hF Tryd.underlying40 rfl Tryd.sizeMo) rfl ⟨y - 400 + 1, k + 3 - 12, q - v + 1, rfl, ?_, hU.below HW.out.1 HW.out.1.size (Nat.le_refl _)⟩
            obtain ⟨e1, e2, e3⟩ := HD'.out.2.2 (by omega)
            have k11 := HD'.out.1
            rw [hx, hv] at e1 e2 e3
            rw [show y - 400 + 1 = y - 399 by omega, show k + 3 - 12 = k - 9 by omega]
            exact ⟨by omega, by omega, by omega, by omega, by omega⟩
end Go.Proofs.YtonfllajceppgaaDoor
