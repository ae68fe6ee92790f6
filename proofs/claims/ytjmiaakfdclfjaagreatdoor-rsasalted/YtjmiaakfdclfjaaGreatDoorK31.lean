/-
  Digest: the reference's sha1.
-/
import Derived.Test.YtjmiaakfdclfjaaGreatDoorK30
namespace Go.Proofs.YtjmiaakfdclfjaaGreatDoor.Sh
open Go.RowKit
set_option maxRecDepth 20000
/-- The five words of a state of SHA-1. -/
def five (r : R8) : List Int := [r.a, r.b, r.c, r.d, r.e]
theorem run1_ok (M : List Int) (k : Nat) : (run 1 M k).words.ok U32 := by
  induction k with
  | zero => exact of_ok first1_u
  | succ k ih => exact mx1_ok ih _
theorem getD_block (M : List Int) (q j n : Nat) (hj : j < n) : ((M.drop q).take n).getD j 0 = M.getD (q + j) 0 := by
  rw [List.getD_eq_getElem?_getD, List.getElem?_take, if_pos hj, List.getElem?_drop, ← List.getD_eq_getElem?_getD]
def w1f (bs W : List Int) (t : Nat) : Int := w1 bs W t
theorem w1f_lo {bs W : List Int} {t : Nat} (h : t < 16) : w1f bs W t = wd32 bs t := by unfold w1f w1; rw [if_pos h]
theorem w1f_hi {bs W : List Int} {t : Nat} (h : ¬ t < 16) : w1f bs W t = rot32 (bits .xor .u32 (bits .xor .u32 (bits .xor .u32 (W.getD (t - 3) 0) (W.getD (t - 8) 0)) (W.getD (t - 14) 0)) (W.getD (t - 16) 0)) 1 := by unfold w1f w1; rw [if_neg h]
theorem out1_four (s : St) (i : Nat) (x : Int) (hi : i < 5) (hx : (five s.words).getD i 0 = x) : (out 1 s).take (4 * (i + 1)) = (out 1 s).take (4 * i) ++ [x / 16777216 % 256, x / 65536 % 256, x / 256 % 256, x % 256] := by
  subst hx
  have h : i = 0 ∨ i = 1 ∨ i = 2 ∨ i = 3 ∨ i = 4 := by omega
  rcases h with rfl | rfl | rfl | rfl | rfl <;> simp [out, siz, outB, blk, five, List.range, List.range.loop, R8.list]
set_option maxRecDepth 20000 in
set_option maxHeartbeats 8000000 in
theorem sha1_any {w : World} (b off n c : Nat) (M : List Int) (K : Nat) (hb : b < w.heap.size) (hr : Rd .u8 w b off M) (uM : U8s M) (lM : M.length = n) (hK : n = 64 * K) (hn : n ≤ 33554432) (hnc : n ≤ c) :
    Calls Tryz.prog 14 #[.slice (some ⟨b, off, none⟩) n c] w fun e w' => ∃ r, e = .returned r ∧ Row .u8 5 w.heap.size w' r (out 1 (run 1 M K)) ∧ Below w.heap.size w w' := by
  have HX : Hid (b < w.heap.size ∧ Rd .u8 w b off M ∧ U8s M ∧ M.length = n ∧ n = 64 * K) := ⟨hb, hr, uM, lM, hK⟩
  clear hr uM lM hK
  go_enter Tryz.func14, Tryz.ntmps14
  go_wp2
  go_loopw [4] (fun av wr => ∃ k q : Nat, av = .int .i64 q ∧ q = 64 * k ∧ k ≤ K ∧ Arr .u32 63 wr w.heap.size (five (run 1 M k).words) ∧ Below w.heap.size w wr) (fun av _ => n - (intOf av).toNat)
  case atStart =>
    refine ⟨0, 0, rfl, rfl, by omega, ?_, ?_⟩
    · have := Blk.new 63 w ((five (run 1 M 0).words).map (Value.int .u32)); exact this
    · exact al1 _
  case round =>
    obtain ⟨k, q, rfl, hq, hk, hA, hBw⟩ := hrel
    rename World => w1
    by_cases hlt : k < K
    · have hqn : q + 64 ≤ n := by have := HX.out.2.2.2.2; omega
      have hqI : (q : Int) < (n : Int) := by omega
      obtain ⟨s0, hs0⟩ : ∃ s, (run 1 M k).words = s := ⟨_, rfl⟩
      have hok : s0.ok U32 := by rw [← hs0]; exact run1_ok M k
      have HRUN : Hid ((run 1 M (k + 1)).words = mx1 s0 ((M.drop q).take 64)) := by rw [← hs0, hq, Nat.mul_comm]; rfl
      rw [hs0] at hA
      obtain ⟨g0, g1, g2, g3, g4, g5, g6, g7⟩ := s0
      have HQ : Hid (q = 64 * k ∧ Arr .u32 63 w1 w.heap.size [g0, g1, g2, g3, g4] ∧ Below w.heap.size w w1 ∧ R8.ok U32 ⟨g0, g1, g2, g3, g4, g5, g6, g7⟩ ∧ w.heap.size < w1.heap.size) := ⟨hq, hA, hBw, hok, hA.lt⟩
      obtain ⟨bs, hbs⟩ : ∃ bs, (M.drop q).take 64 = bs := ⟨_, rfl⟩
      rw [hbs] at HRUN
      have HBS : Hid (U8s bs ∧ ∀ j, j < 64 → w1.cell? ⟨b, off + (q + j), none⟩ = some (.int .u8 (bs.getD j 0))) := by
        refine ⟨by rw [← hbs]; exact (HX.out.2.2.1.drop _).take _, fun j hj => ?_⟩
        rw [hBw.cell (p := ⟨b, off + (q + j), none⟩) hb, HX.out.2.1 (q + j) (by have := HX.out.2.2.2.1; omega), ← hbs, getD_block M q j 64 hj]
      clear hq hA hBw hbs hs0 hok
      have hbl : b < w1.heap.size := by have := HQ.out.2.2.2.2; omega
      go_wp2
      go_loopw [6] (fun tv wq => ∃ t : Nat, tv = .int .i64 t ∧ t ≤ 80 ∧ Arr .u32 64 wq w1.heap.size (sch1 bs t ++ List.replicate (80 - t) 0) ∧ Below w1.heap.size w1 wq) (fun tv _ => 80 - (intOf tv).toNat)
      case atStart =>
        refine ⟨0, rfl, by omega, ?_, al1 _⟩
        have := Blk.new 64 w1 ((List.replicate 80 (0 : Int)).map (Value.int .u32)); exact this
      case round =>
        rename World => w2
        obtain ⟨t, rfl, ht, hA, hB2⟩ := hrel
        by_cases ht80 : t < 80
        · have hl : (sch1 bs t ++ List.replicate (80 - t) 0).length = 80 := by simp [sch1_len]; omega
          have hset : ∀ x, x = w1f bs (sch1 bs t) t → (sch1 bs t ++ List.replicate (80 - t) 0).set t x = sch1 bs (t + 1) ++ List.replicate (80 - (t + 1)) 0 := fun x hx => by
            have h1 := sch1_len bs t
            rw [List.set_append_right _ _ (by omega), h1, Nat.sub_self, show 80 - t = (80 - (t + 1)) + 1 by omega, List.replicate_succ, List.set_cons_zero, hx]
            simp [sch1, w1f]
          have hco := hA.cell t (by omega)
          obtain ⟨o, ho⟩ : ∃ o, (sch1 bs t ++ List.replicate (80 - t) 0).getD t 0 = o := ⟨_, rfl⟩
          rw [ho] at hco
          have hfo := hA.frozen t
          have HH : Hid (Arr .u32 64 w2 w1.heap.size (sch1 bs t ++ List.replicate (80 - t) 0) ∧ Below w1.heap.size w1 w2 ∧ ∀ x, x = w1f bs (sch1 bs t) t → (sch1 bs t ++ List.replicate (80 - t) 0).set t x = sch1 bs (t + 1) ++ List.replicate (80 - (t + 1)) 0) := ⟨hA, hB2, hset⟩
          have htI : (t : Int) < 80 := by omega
          by_cases h16 : t < 16
          · have hcj : ∀ j, j < 64 → w2.cell? ⟨b, off + (q + j), none⟩ = some (.int .u8 (bs.getD j 0)) := fun j hj => by rw [hB2.cell (p := ⟨b, off + (q + j), none⟩) hbl]; exact HBS.out.2 j hj
            obtain ⟨x0, e0⟩ : ∃ x, bs.getD (4 * t) 0 = x := ⟨_, rfl⟩
            obtain ⟨x1, e1⟩ : ∃ x, bs.getD (4 * t + 1) 0 = x := ⟨_, rfl⟩
            obtain ⟨x2, e2⟩ : ∃ x, bs.getD (4 * t + 2) 0 = x := ⟨_, rfl⟩
            obtain ⟨x3, e3⟩ : ∃ x, bs.getD (4 * t + 3) 0 = x := ⟨_, rfl⟩
            have c0 : w2.cell? ⟨b, off + (q + 4 * t), none⟩ = some (.int .u8 x0) := by rw [hcj (4 * t) (by omega), e0]
            have c1 : w2.cell? ⟨b, off + (q + 4 * t) + 1, none⟩ = some (.int .u8 x1) := by rw [Nat.add_assoc, Nat.add_assoc, hcj (4 * t + 1) (by omega), e1]
            have c2 : w2.cell? ⟨b, off + (q + 4 * t) + 2, none⟩ = some (.int .u8 x2) := by rw [Nat.add_assoc, Nat.add_assoc, hcj (4 * t + 2) (by omega), e2]
            have c3 : w2.cell? ⟨b, off + (q + 4 * t) + 3, none⟩ = some (.int .u8 x3) := by rw [Nat.add_assoc, Nat.add_assoc, hcj (4 * t + 3) (by omega), e3]
            obtain ⟨a01, a02⟩ : U8 x0 := e0 ▸ HBS.out.1.at _
            obtain ⟨a11, a12⟩ : U8 x1 := e1 ▸ HBS.out.1.at _
            obtain ⟨a21, a22⟩ : U8 x2 := e2 ▸ HBS.out.1.at _
            obtain ⟨a31, a32⟩ : U8 x3 := e3 ▸ HBS.out.1.at _
            have HV : Hid (x0 * 16777216 + x1 * 65536 + x2 * 256 + x3 = w1f bs (sch1 bs t) t) := by show _ = w1f bs (sch1 bs t) t; rw [w1f_lo h16]; unfold wd32; rw [e0, e1, e2, e3]
            have h16I : (t : Int) < 16 := by omega
            have hne : ¬ c = q + 4 * t := by omega
            have hcI : (q : Int) + 4 * (t : Int) + 4 ≤ (c : Int) := by omega
            clear hA hB2 hset ho hl hcj e0 e1 e2 e3
            go_upto_region 11 with (fail)
            refine wp_region_qsd 24 (by kernel_rfl) (by kernel_rfl) ?_
            simp only [List.take_succ_cons, List.take_zero, List.drop_succ_cons, List.drop_zero]
            repeat (go_big_quiet_step (fail))
            refine wpQuiet_nil ?_
            rintro _ ⟨q2, rfl⟩
            go_wp2
            go_roundw
            case rel =>
              obtain ⟨hA, hB2, hset⟩ := HH.out
              refine ⟨t + 1, by go_num, by omega, ?_, ?_⟩
              · have h1 : Arr .u32 64 (w2.drewN q2) w1.heap.size _ := hA
                have := h1.set t (w1f bs (sch1 bs t) t); rw [hset _ rfl, ← HV.out] at this; exact this
              · exact (Upd.set (w2.drewN q2) w1.heap.size t _).below (below_drewN q2 hB2) hB2.size (Nat.le_refl _)
            case measure => simp [intOf]; omega
          · have hget : ∀ j, j < t → (sch1 bs t ++ List.replicate (80 - t) 0).getD j 0 = (sch1 bs t).getD j 0 := fun j hj => by
              rw [List.getD_eq_getElem?_getD, List.getElem?_append_left (by rw [sch1_len]; exact hj), ← List.getD_eq_getElem?_getD]
            obtain ⟨x3, e3⟩ : ∃ x, (sch1 bs t).getD (t - 3) 0 = x := ⟨_, rfl⟩
            obtain ⟨x8, e8⟩ : ∃ x, (sch1 bs t).getD (t - 8) 0 = x := ⟨_, rfl⟩
            obtain ⟨x14, e14⟩ : ∃ x, (sch1 bs t).getD (t - 14) 0 = x := ⟨_, rfl⟩
            obtain ⟨x16, e16⟩ : ∃ x, (sch1 bs t).getD (t - 16) 0 = x := ⟨_, rfl⟩
            have c3 : w2.cell? ⟨w1.heap.size, t - 3, none⟩ = some (.int .u32 x3) := by rw [hA.cell (t - 3) (by omega), hget _ (by omega), e3]
            have c8 : w2.cell? ⟨w1.heap.size, t - 8, none⟩ = some (.int .u32 x8) := by rw [hA.cell (t - 8) (by omega), hget _ (by omega), e8]
            have c14 : w2.cell? ⟨w1.heap.size, t - 14, none⟩ = some (.int .u32 x14) := by rw [hA.cell (t - 14) (by omega), hget _ (by omega), e14]
            have c16 : w2.cell? ⟨w1.heap.size, t - 16, none⟩ = some (.int .u32 x16) := by rw [hA.cell (t - 16) (by omega), hget _ (by omega), e16]
            have HV : Hid (rot32 (bits .xor .u32 (bits .xor .u32 (bits .xor .u32 x3 x8) x14) x16) (1 : Int).toNat = w1f bs (sch1 bs t) t) := by
              show _ = w1f bs (sch1 bs t) t
              rw [w1f_hi h16, e3, e8, e14, e16]; rfl
            clear hA hB2 hset ho hl e3 e8 e14 e16 hget
            go_upto_region 12 with (fail)
            refine wp_region_qsd 22 (by kernel_rfl) (by kernel_rfl) ?_
            simp only [List.take_succ_cons, List.take_zero, List.drop_succ_cons, List.drop_zero]
            repeat (go_big_quiet_step ((go_at_call 38; exact Calls.quiet_of (left_I _ _ _ (bits_u32 _ _ _) (by omega)))))
            refine wpQuiet_nil ?_
            rintro _ ⟨q2, rfl⟩
            go_wp2
            go_roundw
            case rel =>
              obtain ⟨hA, hB2, hset⟩ := HH.out
              refine ⟨t + 1, by go_num, by omega, ?_, ?_⟩
              · have h1 : Arr .u32 64 (w2.drewN q2) w1.heap.size _ := hA
                have := h1.set t (w1f bs (sch1 bs t) t); rw [hset _ rfl, ← HV.out] at this; exact this
              · exact (Upd.set (w2.drewN q2) w1.heap.size t _).below (below_drewN q2 hB2) hB2.size (Nat.le_refl _)
            case measure => simp [intOf]; omega
        · obtain rfl : t = 80 := by omega
          obtain ⟨hQ1, hQ2, hQ3, hQ4, hQ5⟩ := HQ.out
          have hH := below_arr hB2 (by omega) hQ2
          have cA : w2.cell? ⟨w.heap.size, 0, none⟩ = some (.int .u32 g0) := hH.cell 0 (by simp)
          have cB : w2.cell? ⟨w.heap.size, 1, none⟩ = some (.int .u32 g1) := hH.cell 1 (by simp)
          have cC : w2.cell? ⟨w.heap.size, 2, none⟩ = some (.int .u32 g2) := hH.cell 2 (by simp)
          have cD : w2.cell? ⟨w.heap.size, 3, none⟩ = some (.int .u32 g3) := hH.cell 3 (by simp)
          have cE : w2.cell? ⟨w.heap.size, 4, none⟩ = some (.int .u32 g4) := hH.cell 4 (by simp)
          have hA' : Arr .u32 64 w2 w1.heap.size (sch1 bs 80) := by simpa using hA
          have HH : Hid (Arr .u32 64 w2 w1.heap.size (sch1 bs 80) ∧ Arr .u32 63 w2 w.heap.size [g0, g1, g2, g3, g4] ∧ Below w.heap.size w w2) := ⟨hA', hH, below_via hQ3 hB2 (Nat.le_refl _)⟩
          have hWl := sch1_len bs 80
          obtain ⟨W, hW⟩ : ∃ W, sch1 bs 80 = W := ⟨_, rfl⟩
          have HM : Hid (∀ r, rnd1 W ⟨g0, g1, g2, g3, g4⟩ 80 = r → five (mx1 ⟨g0, g1, g2, g3, g4, g5, g6, g7⟩ bs) = [(g0 + r.a) % 4294967296, (g1 + r.b) % 4294967296, (g2 + r.c) % 4294967296, (g3 + r.d) % 4294967296, (g4 + r.e) % 4294967296]) := fun r h => by subst h; subst hW; rfl
          have HK : Hid (∀ t, (rnd1 W ⟨g0, g1, g2, g3, g4⟩ t).ok) := fun t => rnd1_ok ⟨hQ4.1, hQ4.2.1, hQ4.2.2.1, hQ4.2.2.2.1, hQ4.2.2.2.2.1⟩ t
          rw [hW] at HH hWl
          clear hW hH hA hA' hB2 hQ1 hQ2 hQ3 hQ4 hQ5
          go_upto_region 13 with (fail)
          go_quiet (fail)
          go_wp2_with fail
          clear cA cB cC cD cE
          go_loopw [8, 9, 10, 11, 12, 13] (fun va vb vc vd ve iv wr => ∃ (t q : Nat), iv = .int .i64 t ∧ t ≤ 80 ∧ va = .int .u32 (rnd1 W ⟨g0, g1, g2, g3, g4⟩ t).a ∧ vb = .int .u32 (rnd1 W ⟨g0, g1, g2, g3, g4⟩ t).b ∧ vc = .int .u32 (rnd1 W ⟨g0, g1, g2, g3, g4⟩ t).c ∧ vd = .int .u32 (rnd1 W ⟨g0, g1, g2, g3, g4⟩ t).d ∧ ve = .int .u32 (rnd1 W ⟨g0, g1, g2, g3, g4⟩ t).e ∧ wr = w2.drewN q) (fun _ _ _ _ _ iv _ => 80 - (intOf iv).toNat)
          case atStart => exact ⟨0, nq, rfl, by omega, rfl, rfl, rfl, rfl, rfl, rfl⟩
          case round =>
            rename World => w3
            obtain ⟨t, qq, rfl, ht, rfl, rfl, rfl, rfl, rfl, hwr⟩ := hrel
            have HW : Hid (w3 = w2.drewN qq) := hwr
            clear hwr
            obtain ⟨r, hrr⟩ : ∃ r, rnd1 W ⟨g0, g1, g2, g3, g4⟩ t = r := ⟨_, rfl⟩
            have hok := HK.out t
            have HR : Hid (rnd1 W ⟨g0, g1, g2, g3, g4⟩ t = r) := hrr
            rw [hrr] at hok
            simp only [hrr]
            clear hrr
            obtain ⟨a, b, c, d, e⟩ := r
            have HU : Hid (U32 a ∧ U32 b) := ⟨hok.1, hok.2.1⟩
            clear hok
            by_cases ht80 : t < 80
            · obtain ⟨x, hx0⟩ : ∃ x, W.getD t 0 = x := ⟨_, rfl⟩
              have hx : w3.cell? ⟨w1.heap.size, t, none⟩ = some (.int .u32 x) := by rw [HW.out, ← hx0]; exact HH.out.1.cell t (by omega)
              have HX0 : Hid (W.getD t 0 = x) := hx0
              have htI : (t : Int) < 80 := by omega
              clear hx0
              obtain ⟨y, hy⟩ : ∃ y : Nat, t / 20 = y := ⟨_, rfl⟩
              have hy3 : y = 0 ∨ y = 1 ∨ y = 2 ∨ y = 3 := by omega
              rcases hy3 with rfl | rfl | rfl | rfl
              · have HV : Hid (rnd1 W ⟨g0, g1, g2, g3, g4⟩ (t + 1) = ⟨(rot32 a (5 : Int).toNat + bits .or .u32 (bits .and .u32 b c) (bits .and .u32 (bits .xor .u32 IntKind.u32.max b) d) + e + 1518500249 + x) % 4294967296, a, rot32 b (30 : Int).toNat, c, d⟩) := by
                  show stp1 W t _ = _
                  rw [HR.out]; unfold stp1; rw [hy, HX0.out]; rfl
                have hlo : (0 : Int) ≤ (t : Int) := by omega
                have hhi : (t : Int) < 20 := by omega
                clear hy
                go_upto_region 25 with (fail)
                go_quiet ((go_at_call 38; exact Calls.quiet_of (left_I _ _ _ HU.out.1 (by omega))))
                go_wp2_with (go_at_call 38; refine (left_I _ _ _ HU.out.2 (by omega)).mono ?_; rintro e' w' ⟨rfl, q4, rfl⟩)
                go_roundw
                case rel =>
                  repeat (apply Exists.intro)
                  refine ⟨?_, ?_⟩
                  rotate_left
                  · repeat (first | (refine ⟨rfl, ?_⟩) | rfl)
                  · refine ⟨t + 1, ?_⟩
                    rw [HV.out]
                    exact ⟨by go_num, by omega, rfl, rfl, rfl, rfl, rfl, qq + (nq + q4), by rw [HW.out, World.drewN_drewN]⟩
                case measure => simp [intOf]; omega
              · have HV : Hid (rnd1 W ⟨g0, g1, g2, g3, g4⟩ (t + 1) = ⟨(rot32 a (5 : Int).toNat + bits .xor .u32 (bits .xor .u32 b c) d + e + 1859775393 + x) % 4294967296, a, rot32 b (30 : Int).toNat, c, d⟩) := by
                  show stp1 W t _ = _
                  rw [HR.out]; unfold stp1; rw [hy, HX0.out]; rfl
                have hlo : (20 : Int) ≤ (t : Int) := by omega
                have hhi : (t : Int) < 40 := by omega
                clear hy
                go_upto_region 25 with (fail)
                go_quiet ((go_at_call 38; exact Calls.quiet_of (left_I _ _ _ HU.out.1 (by omega))))
                go_wp2_with (go_at_call 38; refine (left_I _ _ _ HU.out.2 (by omega)).mono ?_; rintro e' w' ⟨rfl, q4, rfl⟩)
                go_roundw
                case rel =>
                  repeat (apply Exists.intro)
                  refine ⟨?_, ?_⟩
                  rotate_left
                  · repeat (first | (refine ⟨rfl, ?_⟩) | rfl)
                  · refine ⟨t + 1, ?_⟩
                    rw [HV.out]
                    exact ⟨qq + (nq + q4), by go_num, by omega, rfl, rfl, rfl, rfl, rfl, by rw [HW.out, World.drewN_drewN]⟩
                case measure => simp [intOf]; omega
              · have HV : Hid (rnd1 W ⟨g0, g1, g2, g3, g4⟩ (t + 1) = ⟨(rot32 a (5 : Int).toNat + bits .or .u32 (bits .or .u32 (bits .and .u32 b c) (bits .and .u32 b d)) (bits .and .u32 c d) + e + 2400959708 + x) % 4294967296, a, rot32 b (30 : Int).toNat, c, d⟩) := by
                  show stp1 W t _ = _
                  rw [HR.out]; unfold stp1; rw [hy, HX0.out]; rfl
                have hlo : (40 : Int) ≤ (t : Int) := by omega
                have hhi : (t : Int) < 60 := by omega
                clear hy
                go_upto_region 25 with (fail)
                go_quiet ((go_at_call 38; exact Calls.quiet_of (left_I _ _ _ HU.out.1 (by omega))))
                go_wp2_with (go_at_call 38; refine (left_I _ _ _ HU.out.2 (by omega)).mono ?_; rintro e' w' ⟨rfl, q4, rfl⟩)
                go_roundw
                case rel =>
                  repeat (apply Exists.intro)
                  refine ⟨?_, ?_⟩
                  rotate_left
                  · repeat (first | (refine ⟨rfl, ?_⟩) | rfl)
                  · refine ⟨t + 1, ?_⟩
                    rw [HV.out]
                    exact ⟨qq + (nq + q4), by go_num, by omega, rfl, rfl, rfl, rfl, rfl, by rw [HW.out, World.drewN_drewN]⟩
                case measure => simp [intOf]; omega
              · have HV : Hid (rnd1 W ⟨g0, g1, g2, g3, g4⟩ (t + 1) = ⟨(rot32 a (5 : Int).toNat + bits .xor .u32 (bits .xor .u32 b c) d + e + 3395469782 + x) % 4294967296, a, rot32 b (30 : Int).toNat, c, d⟩) := by
                  show stp1 W t _ = _
                  rw [HR.out]; unfold stp1; rw [hy, HX0.out]; rfl
                have hlo : (60 : Int) ≤ (t : Int) := by omega
                have hhi : (t : Int) < 80 := by omega
                clear hy
                go_upto_region 25 with (fail)
                go_quiet ((go_at_call 38; exact Calls.quiet_of (left_I _ _ _ HU.out.1 (by omega))))
                go_wp2_with (go_at_call 38; refine (left_I _ _ _ HU.out.2 (by omega)).mono ?_; rintro e' w' ⟨rfl, q4, rfl⟩)
                go_roundw
                case rel =>
                  repeat (apply Exists.intro)
                  refine ⟨?_, ?_⟩
                  rotate_left
                  · repeat (first | (refine ⟨rfl, ?_⟩) | rfl)
                  · refine ⟨t + 1, ?_⟩
                    rw [HV.out]
                    exact ⟨qq + (nq + q4), by go_num, by omega, rfl, rfl, rfl, rfl, rfl, by rw [HW.out, World.drewN_drewN]⟩
                case measure => simp [intOf]; omega
            · obtain rfl : t = 80 := by omega
              have hM := HM.out _ HR.out
              have hH3 : Arr .u32 63 w3 w.heap.size [g0, g1, g2, g3, g4] := by rw [HW.out]; exact HH.out.2.1
              have hB3 : Below w.heap.size w w3 := by rw [HW.out]; exact below_drewN qq HH.out.2.2
              have cA : w3.cell? ⟨w.heap.size, 0, none⟩ = some (.int .u32 g0) := hH3.cell 0 (by simp)
              have cB : w3.cell? ⟨w.heap.size, 1, none⟩ = some (.int .u32 g1) := hH3.cell 1 (by simp)
              have cC : w3.cell? ⟨w.heap.size, 2, none⟩ = some (.int .u32 g2) := hH3.cell 2 (by simp)
              have cD : w3.cell? ⟨w.heap.size, 3, none⟩ = some (.int .u32 g3) := hH3.cell 3 (by simp)
              have cE : w3.cell? ⟨w.heap.size, 4, none⟩ = some (.int .u32 g4) := hH3.cell 4 (by simp)
              have HN : Hid (Arr .u32 63 w3 w.heap.size [g0, g1, g2, g3, g4] ∧ Below w.heap.size w w3) := ⟨hH3, hB3⟩
              have HMM : Hid (five (mx1 ⟨g0, g1, g2, g3, g4, g5, g6, g7⟩ bs) = [(g0 + a) % 4294967296, (g1 + b) % 4294967296, (g2 + c) % 4294967296, (g3 + d) % 4294967296, (g4 + e) % 4294967296]) := hM
              have f0 := hH3.frozen 0
              have f1 := hH3.frozen 1
              have f2 := hH3.frozen 2
              have f3 := hH3.frozen 3
              have f4 := hH3.frozen 4
              clear hM hH3 hB3
              go_wp2_with fail
              obtain ⟨hA, hB3⟩ := HN.out
              refine ⟨⟨k + 1, q + 64, by go_num, by have := HQ.out.1; omega, by omega, ?_, ?_⟩, ?_⟩
              · have e5 : five (run 1 M (k + 1)).words = [(g0 + a) % 4294967296, (g1 + b) % 4294967296, (g2 + c) % 4294967296, (g3 + d) % 4294967296, (g4 + e) % 4294967296] := by rw [HRUN.out]; exact HMM.out
                rw [e5]
                exact ((((hA.set 0 _).set 1 _).set 2 _).set 3 _).set 4 _
              · exact (((((Upd.set _ _ _ _).trans (Upd.set _ _ _ _)).trans (Upd.set _ _ _ _)).trans (Upd.set _ _ _ _)).trans (Upd.set _ _ _ _)).below hB3 hB3.size (Nat.le_refl _)
              · simp [intOf]; omega
    · have hkK : k = K := by omega
      subst hkK
      have hqn : q = n := by have := HX.out.2.2.2.2; omega
      subst hqn
      obtain ⟨s0, hs0⟩ : ∃ s, run 1 M k = s := ⟨_, rfl⟩
      have hok : s0.words.ok U32 := by rw [← hs0]; exact run1_ok M k
      rw [hs0] at hA
      have HQ : Hid (run 1 M k = s0 ∧ Arr .u32 63 w1 w.heap.size (five s0.words) ∧ Below w.heap.size w w1 ∧ s0.words.ok U32) := ⟨hs0, hA, hBw, hok⟩
      clear hs0 hA hBw hok hq
      go_wp2
      go_loopw [17, 18] (fun ov iv wq => ∃ i : Nat, iv = .int .i64 i ∧ i ≤ 5 ∧ Row .u8 5 (w.heap.size + 1) wq ov ((out 1 s0).take (4 * i)) ∧ Arr .u32 63 wq w.heap.size (five s0.words) ∧ Below w.heap.size w wq) (fun _ iv _ => 5 - (intOf iv).toNat)
      case atStart => exact ⟨0, rfl, by omega, Row.nil _ _ _ _, HQ.out.2.1, HQ.out.2.2.1⟩
      case round =>
        obtain ⟨i, rfl, hi, hR, hA, hB⟩ := hrel
        rename World => w2
        by_cases hi5 : i < 5
        · obtain ⟨x, hx⟩ : ∃ x, (five s0.words).getD i 0 = x := ⟨_, rfl⟩
          have hcx := hA.cell i (by exact hi5)
          rw [hx] at hcx
          have hiI : (i : Int) < 5 := by omega
          have HR : Hid (Row .u8 5 (w.heap.size + 1) w2 u17 ((out 1 s0).take (4 * i)) ∧ Arr .u32 63 w2 w.heap.size (five s0.words) ∧ Below w.heap.size w w2 ∧ (five s0.words).getD i 0 = x) := ⟨hR, hA, hB, hx⟩
          clear hR hA hB hx
          have hrow : Row .u8 5 (w.heap.size + 1) w2 u17 ((out 1 s0).take (4 * i)) := HR.out.1
          have hsz : w.heap.size + 1 ≤ w2.heap.size := HR.out.2.1.lt
          have hwl : w.heap.size < w.heap.size + 1 := Nat.lt_succ_self _
          have HL : Hid (((out 1 s0).take (4 * i)).length ≤ 20) := by
            show _ ≤ _
            rw [List.length_take]
            have : (out 1 s0).length = 20 := out_len 1 s0
            omega
          go_upto_region 32 with (fail)
          go_region_held3 (fun w' => w'.cell? ⟨w.heap.size, i, none⟩ = some (.int .u32 x)) (first | go_keep | (rw [hB1.cell (p := ⟨w.heap.size, i, none⟩) hwl]; go_keep))
            ((refine step_ap (by rfl) (.tmp 184) (.tmp 204) 22 22 (by rfl) .u8 5 1 Tryz.und8 Tryz.info8 (by decide) (w.heap.size + 1) _ ((out 1 s0).take (4 * i)) (by rfl) (Row.alloc (by assumption) _) _ [x / 16777216 % 256, x / 65536 % 256, x / 256 % 256, x % 256] (by rfl) (src_sl Tryz.und8 (Arr.sl (S := [x / 16777216 % 256, x / 65536 % 256, x / 256 % 256, x % 256]) (arr_nw rfl rfl))) (by have := HL.out; simp only [List.length_cons, List.length_nil]; omega) (by simp; omega) ?_; intro v5 w5 hr hg; have hB1 := hg.below (Row.alloc (by assumption) _) (by simp; omega)))
          all_goals go_wp2
          go_roundw
          case rel =>
            refine ⟨i + 1, by go_num, by omega, ?_⟩
            rw [out1_four s0 i x hi5 HR.out.2.2.2]
            have hl := HR.out.2.1.lt
            exact ⟨hr, below_arr hB1 hwl (below_arr ((al2' (Below.refl _ _)).drew) hl HR.out.2.1), (al2' HR.out.2.2.1).drew.trans (hB1.mono (by omega))⟩
          case measure => simp [intOf]; omega
        · obtain rfl : i = 5 := by omega
          rw [show (out 1 s0).take (4 * 5) = out 1 s0 from List.take_of_length_le (by rw [out_len]; decide)] at hR
          have HR : Hid (Row .u8 5 (w.heap.size + 1) w2 u17 (out 1 s0) ∧ Below w.heap.size w w2) := ⟨hR, hB⟩
          clear hR hA hB
          go_wp2
          go_ret
          exact ⟨_, rfl, by rw [HQ.out.1]; exact HR.out.1.mono (by omega), HR.out.2⟩
end Go.Proofs.YtjmiaakfdclfjaaGreatDoor.Sh
/-
  Digest: the reference's tables of roots.
-/
namespace Go.Proofs.YtjmiaakfdclfjaaGreatDoor.Sh
open Go.RowKit
set_option maxRecDepth 20000
set_option maxRecDepth 20000 in
set_option maxHeartbeats 1000000 in
theorem roots32_any {w : World} : Calls Tryz.prog 39 #[] w fun e w' => e = .returned (.agg (adds256L.map (Value.int .u32)).toArray) ∧ Below w.heap.size w w' := by
  have HS : Hid ((Tryz.prog.info? 67).map (·.size) = some (adds256L.map (Value.int .u32)).length) := Tryz.size64w
  have hB0 := Blk.new 67 w (List.replicate 64 (Value.int .u32 0))
  have HTh : Hid ((w.alloc (.cells (List.replicate 64 (Value.int .u32 0)).toArray 67)).there w.heap.size 0 (adds256L.map (Value.int .u32)).toArray.size) := hB0.there _ _ (by decide)
  have HF : Hid (Blk 67 ((w.alloc (.cells (List.replicate 64 (Value.int .u32 0)).toArray 67)).setCells w.heap.size 0 (adds256L.map (Value.int .u32))) w.heap.size (adds256L.map (Value.int .u32)) ∧ Below w.heap.size w ((w.alloc (.cells (List.replicate 64 (Value.int .u32 0)).toArray 67)).setCells w.heap.size 0 (adds256L.map (Value.int .u32)))) :=
    ⟨hB0.fill _ (by decide), (Upd.setCells _ _ _).below (al1 _) (al1 _).size (Nat.le_refl _)⟩
  clear hB0
  go_enter Tryz.func39, Tryz.ntmps39
  go_wp2_with (refine wpList_store_mid rfl 67 (.tmp 0) (.tmp 1) rfl w.heap.size 0 (adds256L.map (Value.int .u32)).toArray rfl rfl HTh.out (by simpa using HS.out) (ints_one _ _) ?_)
  exact bodyPost_ret (v := .agg (adds256L.map (Value.int .u32)).toArray) (results_blk (b := w.heap.size) (cs := adds256L.map (Value.int .u32)) rfl rfl HF.out.1 Tryz.underlying67 rfl HS.out) rfl ⟨rfl, HF.out.2⟩
end Go.Proofs.YtjmiaakfdclfjaaGreatDoor.Sh
