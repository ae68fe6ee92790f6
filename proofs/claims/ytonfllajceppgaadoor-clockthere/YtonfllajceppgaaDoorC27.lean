/-
  Clock: the reference's Parts (as in C26, for a seat without Seconds).
-/
import Derived.Test.YtonfllajceppgaaDoorC23
namespace Go.Proofs.YtonfllajceppgaaDoor
open Go.RowKit
theorem ys_range {y : Int} (h0 : 0 ≤ y) (h1 : y ≤ 20000) : 0 ≤ ys y ∧ ys y ≤ 8000000 := by
  have a : (y + 99) / 100 ≤ (y + 3) / 4 + 1 := by omega
  have b : 0 ≤ (y + 3) / 4 := by omega
  have c : (y + 3) / 4 ≤ 6000 := by omega
  have d : (y + 399) / 400 ≤ 60 := by omega
  have e : 0 ≤ (y + 99) / 100 := by omega
  have f : (y + 99) / 100 ≤ y := by omega
  unfold ys; omega
theorem ms_range {y m : Int} (h0 : 1 ≤ m) (h1 : m ≤ 13) : 0 ≤ ms y m ∧ ms y m ≤ 366 := by
  have l := lp_01 y
  unfold ms; split <;> omega
theorem ys_0 : ys 0 = 0 := by decide
def Cnt (w w' : World) (p : Nat) (t : Mo) : Prop := Below w.heap.size w w' ∧ Blk 40 w' w.heap.size (Mo.cells ⟨0, 0, 0, 0, 0, 0⟩) ∧ Blk 40 w' p t.cells ∧ w.heap.size < p
theorem Cnt.set {w w' : World} {p : Nat} {t : Mo} (h : Cnt w w' p t) (i : Nat) (v : Value) (u : Mo) (hu : t.cells.set i v = u.cells) : Cnt w (w'.setCell ⟨p, i, none⟩ v) p u :=
  ⟨(Upd.set w' p i v).below h.1 h.1.size (Nat.le_of_lt h.2.2.2), (Upd.set w' p i v).blk h.2.1 (by have := h.2.2.2; omega), hu ▸ h.2.2.1.set i v, h.2.2.2⟩
theorem parts_of {sec d0 r y M : Int} (h0 : -62167219200 ≤ sec) (hd : (sec + 62167219200) / 86400 = d0) (hr : (sec + 62167219200) % 86400 = r)
    (y0 : 0 ≤ y) (e0 : ys y ≤ d0) (_e1 : d0 - ys y < 365 + lp y) (m0 : 1 ≤ M) (m1 : M ≤ 12) (f0 : ms y M ≤ d0 - ys y) (f1 : d0 - ys y - ms y M < ml y M) :
    (y ≤ 9999 → Mo.Ok ⟨y, M, d0 - ys y - ms y M + 1, r / 3600, r / 60 % 60, r % 60⟩ ∧ Mo.sec ⟨y, M, d0 - ys y - ms y M + 1, r / 3600, r / 60 % 60, r % 60⟩ = sec ∧ sec ≤ 253402300799) ∧ (9999 < y → 253402300799 < sec) := by
  have r0 : 0 ≤ r ∧ r < 86400 := by omega
  constructor
  · intro hy
    have ok : Mo.Ok ⟨y, M, d0 - ys y - ms y M + 1, r / 3600, r / 60 % 60, r % 60⟩ := mo_ok ⟨⟨y0, hy, m0, m1, by simp only; omega, by simp only; omega⟩, by simp only; omega, by simp only; omega, by simp only; omega, by simp only; omega, by simp only; omega, by simp only; omega⟩
    have es : Mo.sec ⟨y, M, d0 - ys y - ms y M + 1, r / 3600, r / 60 % 60, r % 60⟩ = sec := by
      simp only [Mo.sec, Mo.day]; omega
    exact ⟨ok, es, by have := Mo.sec_range ok; omega⟩
  · intro hy
    have z : ys 10000 = 3652425 := by decide
    have : ys 10000 ≤ ys y := by
      by_cases e : y = 10000
      · rw [e]; omega
      · have := ys_mono (a := 10000) (b := y) (by omega)
        have := lp_01 10000
        omega
    omega
set_option maxRecDepth 100000 in
set_option maxHeartbeats 8000000 in
theorem RParts_any {w : World} (sec : Int) : Calls Tryd.prog 17 #[.int .i64 sec] w fun e w' => PartsIs sec e ∧ Below w.heap.size w w' := by
  by_cases a0 : sec < -62167219200
  · go_enter Tryd.func17, Tryd.ntmps17
    go_wp2
    exact bodyPost_ret (results_blk2 rfl rfl (Blk.new _ w (Mo.cells ⟨0, 0, 0, 0, 0, 0⟩)) Tryd.underlying40 rfl Tryd.sizeMo rfl) rfl ⟨Or.inr ⟨fun h => by omega, rfl⟩, al1 _⟩
  · by_cases a1 : 400000000000 < sec
    · go_enter Tryd.func17, Tryd.ntmps17
      go_wp2
      exact bodyPost_ret (results_blk2 rfl rfl (Blk.new _ w (Mo.cells ⟨0, 0, 0, 0, 0, 0⟩)) Tryd.underlying40 rfl Tryd.sizeMo rfl) rfl ⟨Or.inr ⟨fun h => by omega, rfl⟩, al1 _⟩
    · obtain ⟨S, hS⟩ : ∃ S, sec + 62167219200 = S := ⟨_, rfl⟩
      have S0 : 0 ≤ S := by omega
      have S1 : S ≤ 500000000000 := by omega
      obtain ⟨dd, hd⟩ : ∃ d, S / 86400 = d := ⟨_, rfl⟩
      obtain ⟨r, hr⟩ : ∃ d, S % 86400 = d := ⟨_, rfl⟩
      have d0 : 0 ≤ dd := by omega
      have d1 : dd ≤ 6000000 := by omega
      have r0 : 0 ≤ r := by omega
      have r1 : r < 86400 := by omega
      obtain ⟨hh, hhh⟩ : ∃ x, r / 3600 = x := ⟨_, rfl⟩
      obtain ⟨mm, hmm⟩ : ∃ x, r / 60 % 60 = x := ⟨_, rfl⟩
      obtain ⟨ss, hss⟩ : ∃ x, r % 60 = x := ⟨_, rfl⟩
      have HP : Hid (sec + 62167219200 = S ∧ S / 86400 = dd ∧ S % 86400 = r ∧ r / 3600 = hh ∧ r / 60 % 60 = mm ∧ r % 60 = ss) := ⟨hS, hd, hr, hhh, hmm, hss⟩
      go_enter Tryd.func17, Tryd.ntmps17
      go_wp2_with fail
      refine wp_gen (fun W => Cnt w W (w.heap.size + 1) ⟨0, 1, 0, hh, mm, ss⟩) ⟨al2' (al1 _), (Blk.new _ w _).alloc _, ?_, by omega⟩ ?_
      · have := Blk.new 40 (w.alloc (.cells (Mo.cells ⟨0, 0, 0, 0, 0, 0⟩).toArray 40)) (Mo.cells ⟨0, 1, 0, hh, mm, ss⟩)
        rw [show (w.alloc (.cells (Mo.cells ⟨0, 0, 0, 0, 0, 0⟩).toArray 40)).heap.size = w.heap.size + 1 by simp] at this
        unfold Mo.cells at this
        rw [← hhh, ← hmm, ← hss] at this ⊢
        exact this
      obtain ⟨p, hp⟩ : ∃ p, w.heap.size + 1 = p := ⟨_, rfl⟩
      rw [hp]
      intro w1 h1
      have H1 : Hid (Cnt w w1 p ⟨0, 1, 0, hh, mm, ss⟩) := h1
      clear h1 hp hS hd hr hhh hmm hss
      go_loopw [5] (fun dv wr => ∃ y : Int, 0 ≤ y ∧ y ≤ 18000 ∧ ys y ≤ dd ∧ dv = .int .i64 (dd - ys y) ∧ Cnt w wr p ⟨y, 1, 0, hh, mm, ss⟩) (fun dv _ => (intOf dv).toNat)
      case atStart => exact ⟨0, by omega, by omega, by rw [ys_0]; omega, by rw [ys_0]; simp, H1.out⟩
      case round =>
        obtain ⟨y, y0, y1, hy, rfl, hC⟩ := hrel
        have HC : Hid (Cnt w wr p ⟨y, 1, 0, hh, mm, ss⟩) := hC
        obtain ⟨c0, c1, c2, c3, c4, c5, g0, g1, g2, g3, g4, g5⟩ := Mo.facts hC.2.2.1
        clear hC
        obtain ⟨a, ha⟩ : ∃ a, ys y = a := ⟨_, rfl⟩
        have hr := ys_range y0 (show y ≤ 20000 by omega)
        rw [ha] at hr hy
        obtain ⟨a0', a1'⟩ := hr
        obtain ⟨l, hl⟩ : ∃ l, 365 + lp y = l := ⟨_, rfl⟩
        have hl0 : 365 ≤ l ∧ l ≤ 366 := by have := lp_01 y; omega
        obtain ⟨l0, l1⟩ := hl0
        obtain ⟨x, hx⟩ : ∃ x, dd - a = x := ⟨_, rfl⟩
        have x0 : 0 ≤ x := by omega
        have x1 : x ≤ 6000000 := by omega
        have HA : Hid (ys y = a ∧ 365 + lp y = l ∧ dd - a = x ∧ ys (y + 1) = a + l) := ⟨ha, hl, hx, by rw [ys_succ, ha]; omega⟩
        rw [ha, hx]
        have y36 : 365 * y ≤ a + 100 := by rw [← ha]; unfold ys; omega
        clear ha hx
        by_cases hlt : l ≤ x
        · go_wp2_with (go_at_call 27; refine (year_any y y0 (by omega)).mono ?_; rintro e w' ⟨rfl, rfl⟩; rw [hl])
          refine ⟨⟨y + 1, by omega, ?_, ?_, ?_, HC.out.set 0 (.int .i64 (y + 1)) _ rfl⟩, ?_⟩
          · have := HA.out.2.2.1; omega
          · rw [HA.out.2.2.2]; have := HA.out.2.2.1; omega
          · rw [HA.out.2.2.2, show dd - (a + l) = x - l by have := HA.out.2.2.1; omega]
          · simp [intOf]; omega
        · have HX : Hid (ys y ≤ dd ∧ dd - ys y < 365 + lp y) := ⟨by rw [HA.out.1]; exact hy, by rw [HA.out.1, HA.out.2.1, HA.out.2.2.1]; omega⟩
          go_wp2_with (go_at_call 27; refine (year_any y y0 (by omega)).mono ?_; rintro e w' ⟨rfl, rfl⟩; rw [hl])
          clear c0 c1 c2 c3 c4 c5 g0 g1 g2 g3 g4 g5
          go_loopw [5] (fun dv wr => ∃ M : Int, 1 ≤ M ∧ M ≤ 12 ∧ ms y M ≤ x ∧ dv = .int .i64 (x - ms y M) ∧ Cnt w wr p ⟨y, M, 0, hh, mm, ss⟩) (fun dv _ => (intOf dv).toNat)
          case atStart => exact ⟨1, by omega, by omega, by rw [ms_1]; exact x0, by rw [ms_1]; simp, HC.out⟩
          case round =>
            obtain ⟨M, m0, m1, hm, rfl, hC⟩ := hrel
            have HC2 : Hid (Cnt w wr p ⟨y, M, 0, hh, mm, ss⟩) := hC
            obtain ⟨c0, c1, c2, c3, c4, c5, g0, g1, g2, g3, g4, g5⟩ := Mo.facts hC.2.2.1
            clear hC
            obtain ⟨b, hb⟩ : ∃ b, ms y M = b := ⟨_, rfl⟩
            have hr := ms_range (y := y) m0 (show M ≤ 13 by omega)
            rw [hb] at hr hm
            obtain ⟨b0, b1⟩ := hr
            obtain ⟨n, hn⟩ : ∃ n, ml y M = n := ⟨_, rfl⟩
            have hn0 : 28 ≤ n ∧ n ≤ 31 := by have := ml_ge y M; have := ml_le y M; omega
            obtain ⟨n0, n1⟩ := hn0
            obtain ⟨z, hz⟩ : ∃ z, x - b = z := ⟨_, rfl⟩
            have z0 : 0 ≤ z := by omega
            have z1 : z ≤ 400 := by omega
            have HB : Hid (ms y M = b ∧ ml y M = n ∧ x - b = z ∧ ms y (M + 1) = b + n) := ⟨hb, hn, hz, by rw [ms_succ y M m0 m1, hb, hn]⟩
            have h13 : n ≤ z → M + 1 ≤ 12 := by
              intro h
              by_cases e : M = 12
              · have e1 := HB.out.2.2.2
                rw [e, show (12 : Int) + 1 = 13 from rfl, ms_13] at e1
                omega
              · omega
            rw [hb, hz]
            clear hb hz
            by_cases hlt2 : n ≤ z
            · have hM := h13 hlt2
              go_wp2_with (go_at_call 28; refine (month_any y M y0 (by omega) m0 m1).mono ?_; rintro e w' ⟨rfl, rfl⟩; rw [hn])
              refine ⟨⟨M + 1, by omega, hM, ?_, ?_, HC2.out.set 1 (.int .i64 (M + 1)) _ rfl⟩, ?_⟩
              · rw [HB.out.2.2.2]; have := HB.out.2.2.1; omega
              · rw [HB.out.2.2.2, show x - (b + n) = z - n by have := HB.out.2.2.1; omega]
              · simp [intOf]; omega
            · have HF := parts_of (sec := sec) (d0 := dd) (r := r) (y := y) (M := M) (by omega) (by rw [HP.out.1]; exact HP.out.2.1) (by rw [HP.out.1]; exact HP.out.2.2.1) y0 HX.out.1 HX.out.2 m0 m1
                (by rw [HB.out.1, HA.out.1, HA.out.2.2.1]; exact hm) (by rw [HB.out.1, HA.out.1, HA.out.2.2.1, HB.out.2.2.1, HB.out.2.1]; omega)
              rw [HB.out.1, HA.out.1, HA.out.2.2.1, HB.out.2.2.1, HP.out.2.2.2.1, HP.out.2.2.2.2.1, HP.out.2.2.2.2.2] at HF
              have HF' : Hid _ := HF
              clear HF h13
              go_upto_region 14 with (go_at_call 28; refine (month_any y M y0 (by omega) m0 m1).mono ?_; rintro e w' ⟨rfl, rfl⟩; rw [hn])
              refine wp_gen (fun W => Cnt w W p ⟨y, M, z + 1, hh, mm, ss⟩) (HC2.out.set 2 (.int .i64 (z + 1)) _ rfl) ?_
              clear c0 c1 c2 c3 c4 c5 g0 g1 g2 g3 g4 g5
              intro w3 hC
              have HC3 : Hid (Cnt w w3 p ⟨y, M, z + 1, hh, mm, ss⟩) := hC
              obtain ⟨c0, c1, c2, c3, c4, c5, g0, g1, g2, g3, g4, g5⟩ := Mo.facts hC.2.2.1
              obtain ⟨q0, q1, q2, q3, q4, q5, f0, f1, f2, f3, f4, f5⟩ := Mo.facts hC.2.1
              clear hC
              by_cases hy9 : y ≤ 9999
              · go_wp2
                obtain ⟨hF, hV⟩ := Mo.put HC3.out.2.1 y M (z + 1) hh mm ss
                obtain ⟨k1, k2, k3⟩ := HF'.out.1 hy9
                exact bodyPost_ret (results_blk2 rfl rfl hF Tryd.underlying40 rfl Tryd.sizeMo rfl) rfl ⟨Or.inl ⟨by omega, k3, _, rfl, k1, k2⟩, hV.below HC3.out.1 HC3.out.1.size (Nat.le_refl _)⟩
              · go_wp2
                obtain ⟨hF, hV⟩ := Mo.put HC3.out.2.1 0 0 0 0 0 0
                have k1 := HF'.out.2 (by omega)
                exact bodyPost_ret (results_blk2 rfl rfl hF Tryd.underlying40 rfl Tryd.sizeMo rfl) rfl ⟨Or.inr ⟨fun h => by omega, rfl⟩, hV.below HC3.out.1 HC3.out.1.size (Nat.le_refl _)⟩
end Go.Proofs.YtonfllajceppgaaDoor
