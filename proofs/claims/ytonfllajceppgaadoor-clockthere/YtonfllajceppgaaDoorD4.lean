/-
  Clock: the reference's digits, tail.
-/
import Derived.Test.YtonfllajceppgaaDoorD3
import Derived.Test.YtonfllajceppgaaDoorC27
namespace Go.Proofs.YtonfllajceppgaaDoor
open Go.RowKit
theorem one_str (w : World) (d : Int) : Sem.run Tryd.prog (convert 22 9 (.slice (some ⟨w.heap.size, 0, none⟩) 1 1)) (w.alloc (.cells #[.int .u8 (48 + d)] 5)) = .ok (.string (strOfNums [48 + d])) (w.alloc (.cells #[.int .u8 (48 + d)] 5)) := by
  obtain ⟨a, c, e, hr⟩ := sl_str (new1 (w := w) (e := 5) (48 + d))
  cases e
  exact hr
theorem wd_next (i u : Nat) : strOfNums [48 + ((u / 10 ^ i % 10 : Nat) : Int)] ++ strOfNums (wd i u) = strOfNums (wd (i + 1) u) := by
  rw [st_append, Nat.add_comm i 1, wd_add 1 i u]
  rfl
set_option maxHeartbeats 2000000 in
set_option maxRecDepth 100000 in
theorem RDig_any {w : World} (u k : Nat) (hk : k ≤ 14) (hu : u < 100000000000000) : Calls Tryd.prog 18 #[.int .i64 u, .int .i64 k] w fun e w' => e = .returned (.string (strOfNums (wd k u))) ∧ Below w.heap.size w w' := by
  have kz : (k : Int) ≤ 14 := by omega
  go_enter Tryd.func18, Tryd.ntmps18
  go_wp2
  go_loopw [0, 5, 6] (fun nv sv iv wr => ∃ (i x : Nat) (S : ByteArray), nv = .int .i64 x ∧ sv = .string S ∧ iv = .int .i64 i ∧ i ≤ k ∧ u / 10 ^ i = x ∧ x < 100000000000000 ∧ strOfNums (wd i u) = S ∧ Below w.heap.size w wr) (fun _ _ iv _ => k - (intOf iv).toNat)
  case atStart => exact ⟨0, u, _, rfl, rfl, rfl, Nat.zero_le _, by simp, hu, rfl, Below.refl _ _⟩
  case round =>
    obtain ⟨i, x, S, rfl, rfl, rfl, hi, hx, hxl, hS, hb⟩ := hrel
    have HB : Hid (Below w.heap.size w wr ∧ u / 10 ^ i = x ∧ strOfNums (wd i u) = S) := ⟨hb, hx, hS⟩
    have hz : S.size ≤ 14 := by rw [← hS, st_size, wd_len]; omega
    clear hb hx hS hu
    by_cases hlt : i < k
    · have z1 : (i : Int) < (k : Int) := by omega
      have hcv := one_str wr ((x : Int) % 10)
      have xz : (x : Int) < 100000000000000 := by omega
      have hsz : (strOfNums [48 + (x : Int) % 10]).size = 1 := by rw [st_size]; rfl
      have HN : Hid (strOfNums [48 + (x : Int) % 10] ++ S = strOfNums (wd (i + 1) u)) := by
        show _ = _
        rw [← wd_next, HB.out.2.1, HB.out.2.2, Int.natCast_emod]; rfl
      obtain ⟨A, hA⟩ : ∃ A, strOfNums [48 + (x : Int) % 10] = A := ⟨_, rfl⟩
      rw [hA] at hcv hsz HN
      clear hA
      go_wp2
      go_roundw
      case rel =>
        refine ⟨i + 1, x / 10, A ++ S, by go_num, rfl, by go_num, by omega, ?_, by omega, HN.out.symm, al2' HB.out.1⟩
        rw [← HB.out.2.1, Nat.div_div_eq_div_mul, Nat.pow_succ]
      case measure => simp [intOf]; omega
    · have z1 : ¬ (i : Int) < (k : Int) := by omega
      have HK : Hid (i = k) := by show _ = _; omega
      go_wp2
      go_ret
      refine ⟨?_, HB.out.1⟩
      rw [← HK.out, HB.out.2.2]; rfl
def Two (x : Int) : Prop := 0 ≤ x ∧ x ≤ 99
theorem RDig2 {w : World} (x : Int) (h : Two x) : Calls Tryd.prog 18 #[.int .i64 x, .int .i64 2] w fun e w' => e = .returned (.string (strOfNums (wd 2 x.toNat))) ∧ Below w.heap.size w w' := by
  have h0 := h.1; have h1 := h.2
  have := RDig_any (w := w) x.toNat 2 (by decide) (by omega)
  rw [Int.toNat_of_nonneg h0] at this
  exact this
set_option maxHeartbeats 4000000 in
set_option maxRecDepth 100000 in
theorem Rtail_any {w : World} (t : Mo) (hO : t.Sm) : Calls Tryd.prog 19 #[.agg t.cells.toArray] w fun e w' => e = .returned (.string (strOfNums (tailX t))) ∧ Below w.heap.size w w' := by
  have HX : Hid (strOfNums (wd 2 t.M.toNat) ++ strOfNums (wd 2 t.D.toNat) ++ strOfNums (wd 2 t.h.toNat) ++ strOfNums (wd 2 t.m.toNat) ++ strOfNums (wd 2 t.s.toNat) = strOfNums (tailX t)) := by
    show _ = _
    rw [st_append, st_append, st_append, st_append]; rfl
  obtain ⟨G, hG⟩ : ∃ G, strOfNums (tailX t) = G := ⟨_, rfl⟩
  rw [hG] at HX ⊢
  clear hG
  obtain ⟨Y, M, D, h, m, s⟩ := t
  have pM : Two M := ⟨hO.m0, hO.m1⟩
  have pD : Two D := ⟨hO.d0, hO.d1⟩
  have ph : Two h := ⟨hO.h0, hO.h1⟩
  have pm : Two m := ⟨hO.i0, hO.i1⟩
  have ps : Two s := ⟨hO.s0, hO.s1⟩
  simp only at HX
  clear hO
  have hz : ∀ x, (strOfNums (wd 2 x)).size = 2 := fun x => by rw [st_size, wd_len]
  unfold Mo.cells
  go_enter Tryd.func19, Tryd.ntmps19
  go_wp2_with fail
  refine wp_gen (fun W => Blk 40 W w.heap.size (Mo.cells ⟨Y, M, D, h, m, s⟩) ∧ Below w.heap.size w W) ⟨Blk.new _ _ _, al1 _⟩ ?_
  rintro w1 ⟨hB, hb⟩
  have HKS : Hid (∀ W, Below w1.heap.size w1 W → Below w1.heap.size w1 W ∧ W.cell? ⟨w.heap.size, 1, none⟩ = some (.int .i64 M) ∧ W.cell? ⟨w.heap.size, 2, none⟩ = some (.int .i64 D) ∧ W.cell? ⟨w.heap.size, 3, none⟩ = some (.int .i64 h) ∧ W.cell? ⟨w.heap.size, 4, none⟩ = some (.int .i64 m) ∧ W.cell? ⟨w.heap.size, 5, none⟩ = some (.int .i64 s)) := fun W hW => by
    have := Mo.facts (below_blk hW hB.lt hB)
    exact ⟨hW, this.2.1, this.2.2.1, this.2.2.2.1, this.2.2.2.2.1, this.2.2.2.2.2.1⟩
  have H1 : Hid (Below w.heap.size w w1) := hb
  have hb0 : Below w1.heap.size w1 w1 := Below.refl _ _
  clear hB hb
  go_region_held3 (fun W => Below w1.heap.size w1 W ∧ W.cell? ⟨w.heap.size, 1, none⟩ = some (.int .i64 M) ∧ W.cell? ⟨w.heap.size, 2, none⟩ = some (.int .i64 D) ∧ W.cell? ⟨w.heap.size, 3, none⟩ = some (.int .i64 h) ∧ W.cell? ⟨w.heap.size, 4, none⟩ = some (.int .i64 m) ∧ W.cell? ⟨w.heap.size, 5, none⟩ = some (.int .i64 s)) ((refine HKS.out _ ?_; first | exact hb0.drew | exact Below.drew (And.left (by assumption)) | exact And.left (by assumption) | exact below_via (And.left (by assumption)) hb2 (Nat.le_refl _) | exact Below.drew (below_via (And.left (by assumption)) hb2 (Nat.le_refl _)))) ((go_at_call 18; refine (RDig2 _ (by first | exact pM | exact pD | exact ph | exact pm | exact ps)).mono ?_; rintro e w2 ⟨rfl, hb2⟩))
  rename_i hHeld
  have H2 : Hid (Below w.heap.size w w2) := below_via H1.out hHeld.1 (Nat.le_refl _)
  clear hHeld
  go_wp2
  go_ret
  refine ⟨?_, H2.out⟩
  rw [← HX.out]; rfl
end Go.Proofs.YtonfllajceppgaaDoor
