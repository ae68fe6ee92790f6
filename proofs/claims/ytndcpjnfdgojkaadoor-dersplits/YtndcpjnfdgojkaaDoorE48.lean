/-
  Der: the reference's tag and length.
-/
import Derived.Test.YtndcpjnfdgojkaaDoorE47
namespace Go.Proofs.YtndcpjnfdgojkaaDoor
open Go.RowKit
def Rs.i : Rs → Nat
  | .bad _ _ => 0
  | .ok _ i => i
def Rs.a : Rs → Nat
  | .bad _ a => a
  | .ok _ _ => 0
theorem results_tmp4 {fn : Func} {t u v x : Tmp} (h : fn.results = #[.tmp t, .tmp u, .tmp v, .tmp x]) (tmps : Array Value) (P : Program) (w : World) :
    (results fn tmps).run P w = .ok (.tuple #[tmps.getD t undef, tmps.getD u undef, tmps.getD v undef, tmps.getD x undef]) w := by
  simp [results, h]
def RsVal (O : Rs) : Value := .tuple #[.int .i64 O.v, .int .i64 O.i, .int .i64 O.e, .int .i64 O.a]
set_option maxRecDepth 20000 in
set_option maxHeartbeats 4000000 in
theorem Rtag_any {w : World} (b off n c p : Nat) (M : List Int) (hM : Rd .u8 w b off M) (uM : U8s M) (hMl : M.length = n) (hn : n ≤ 16777216) (hp : p < n) :
    Calls Tryd.prog 37 #[.slice (some ⟨b, off, none⟩) n c, .int .i64 p] w fun e w' => e = .returned (RsVal (tagS M p)) ∧ w = w' := by
  obtain ⟨x, hx⟩ : ∃ x, M.getD p 0 = x := ⟨_, rfl⟩
  have hu8 := uM.at p
  rw [hx] at hu8
  obtain ⟨O, hO⟩ : ∃ O, tagS M p = O := ⟨_, rfl⟩
  have HX : Hid (Rd .u8 w b off M ∧ U8s M ∧ M.length = n ∧ M.getD p 0 = x ∧ U8 x ∧ tagS M p = O) := ⟨hM, uM, hMl, hx, hu8, hO⟩
  have cx : w.cell? ⟨b, off + p, none⟩ = some (.int .u8 x) := by rw [hM p (by omega), hx]
  have x0 := hu8.1
  have x1 := hu8.2
  rw [hO]
  clear hM uM hMl hx hu8 hO
  have hpI : (p : Int) < (n : Int) := by omega
  have hnI : (n : Int) ≤ 16777216 := by omega
  obtain ⟨r, hr⟩ : ∃ r, x % 32 = r := ⟨_, rfl⟩
  have HR : Hid (x % 32 = r) := hr
  have r0 : 0 ≤ r := by omega
  have r1 : r ≤ 31 := by omega
  by_cases q1 : r = 31
  · subst q1
    have HO : Hid (lng M (p + 1) 0 = O) := by show _ = _; rw [← HX.out.2.2.2.2.2]; unfold tagS; rw [HX.out.2.2.2.1, if_pos hr]
    go_enter Tryd.func37, Tryd.ntmps37
    go_wp2_with fail
    go_loopw [8, 9] (fun nv iv wr => ∃ (i : Nat) (t : Int), nv = .int .i64 t ∧ iv = .int .i64 i ∧ p + 1 ≤ i ∧ i ≤ n ∧ 0 ≤ t ∧ t ≤ 268435455 ∧ (i = p + 1 → t = 0) ∧ (p + 1 < i → 1 ≤ t) ∧ lng M i t = O ∧ w = wr) (fun _ iv _ => n - (intOf iv).toNat)
    case atStart => exact ⟨p + 1, 0, rfl, by go_num, by omega, by omega, by decide, by decide, fun _ => rfl, by omega, HO.out, rfl⟩
    case round =>
      obtain ⟨i, t, rfl, rfl, hi1, hi, t0, t1, ht0, ht1, hl, rfl⟩ := hrel
      have H1 : Hid ((i = p + 1 → t = 0) ∧ (p + 1 < i → 1 ≤ t) ∧ lng M i t = O) := ⟨ht0, ht1, hl⟩
      clear ht0 ht1 hl cx
      by_cases hlt : i < n
      · have l1 : (i : Int) < (n : Int) := by omega
        obtain ⟨y, hy⟩ : ∃ y, M.getD i 0 = y := ⟨_, rfl⟩
        have hyu := HX.out.2.1.at i
        rw [hy] at hyu
        have y0 := hyu.1
        have y1 := hyu.2
        have cy : w.cell? ⟨b, off + i, none⟩ = some (.int .u8 y) := by rw [HX.out.1 i (by have := HX.out.2.2.1; omega), hy]
        obtain ⟨z, hz⟩ : ∃ z, y % 128 = z := ⟨_, rfl⟩
        obtain ⟨t', ht'⟩ : ∃ t', t * 128 + z = t' := ⟨_, rfl⟩
        have HS : Hid (O = if t' = 0 ∨ 268435455 < t' ∨ (y < 128 ∧ t' < 31) then .bad 30 i else if y < 128 then .ok t' (i + 1) else lng M (i + 1) t') := by
          show _ = _
          rw [← H1.out.2.2]
          exact lng_step (by have := HX.out.2.2.1; omega) hy (by omega)
        have HZ : Hid (y % 128 = z ∧ t * 128 + z = t') := ⟨hz, ht'⟩
        have z0 : 0 ≤ z := by omega
        have z1 : z ≤ 127 := by omega
        have t20 : 0 ≤ t' := by omega
        have t21 : t' ≤ 34359738367 := by omega
        have HT : Hid (i ≠ p + 1 ∨ y ≠ 128 → y ≥ 128 → 1 ≤ t') := by
          intro h1 h2
          by_cases h3 : i = p + 1
          · have := H1.out.1 h3; omega
          · have := H1.out.2.1 (by omega); omega
        have HZ0 : Hid (t' = 0 → i = p + 1 ∧ (y = 128 ∨ y < 128)) := by
          intro h0
          by_cases h3 : i = p + 1
          · have := H1.out.1 h3; exact ⟨h3, by omega⟩
          · have := H1.out.2.1 (by omega); omega
        clear hy hyu
        by_cases q2 : 268435455 < t'
        · go_wp2
          (try simp only [Exit.inBlock, Exit.then]); refine bodyPost_ret (results_tmp4 rfl _ _ _) rfl ?_
          rw [HS.out, if_pos (by omega)]
          exact ⟨rfl, rfl⟩
        by_cases q3 : i = p + 1 ∧ y = 128
        · obtain ⟨q3, q3y⟩ := q3
          have q3yb : (y == 128) = true := by simpa using q3y
          have HY : Hid (y = 128) := q3y
          clear q3y
          have q3I : ((i : Int) == (p : Int) + 1) = true := by simp; omega
          have ht0 : t' = 0 := by have := H1.out.1 q3; have := HZ.out; have := HY.out; omega
          have HT0 : Hid (t' = 0) := ht0
          clear ht0 q3
          go_wp2
          (try simp only [Exit.inBlock, Exit.then]); refine bodyPost_ret (results_tmp4 rfl _ _ _) rfl ?_
          rw [HS.out, if_pos (.inl HT0.out)]
          exact ⟨rfl, rfl⟩
        have q3b : ((i : Int) == (p : Int) + 1) = false ∨ (((i : Int) == (p : Int) + 1) = true ∧ (y == 128) = false) := by
          by_cases h3 : i = p + 1
          · right; refine ⟨by simp; omega, ?_⟩; simp; omega
          · left; simp; omega
        rcases q3b with q3b | ⟨q3I, q3b⟩
        all_goals
          by_cases q4 : y < 128
          · by_cases q5 : t' < 31
            · go_wp2
              (try simp only [Exit.inBlock, Exit.then]); refine bodyPost_ret (results_tmp4 rfl _ _ _) rfl ?_
              rw [HS.out, if_pos (by omega)]
              exact ⟨rfl, rfl⟩
            · go_wp2
              (try simp only [Exit.inBlock, Exit.then]); refine bodyPost_ret (results_tmp4 rfl _ _ _) rfl ?_
              rw [HS.out, if_neg (by omega), if_pos q4]
              exact ⟨rfl, rfl⟩
          · go_wp2
            go_roundw
            case rel =>
              have h1 : 1 ≤ t' := HT.out (by omega) (by omega)
              refine ⟨i + 1, t', rfl, by go_num, by omega, by omega, t20, by omega, by omega, fun _ => h1, ?_, trivial⟩
              have h2 := HS.out
              rw [if_neg (by omega), if_neg (by omega)] at h2
              exact h2.symm
            case measure => simp [intOf]; omega
      · obtain rfl : i = n := by omega
        have l1 : ¬ (i : Int) < (i : Int) := by omega
        go_wp2
        (try simp only [Exit.inBlock, Exit.then]); refine bodyPost_ret (results_tmp4 rfl _ _ _) rfl ?_
        have h1 := H1.out.2.2
        rw [lng_end (by have := HX.out.2.2.1; omega), HX.out.2.2.1] at h1
        subst h1
        exact ⟨rfl, rfl⟩
  have q1b : (r != 31) = true := by simpa using q1
  by_cases q2 : r = 0 ∧ x < 64
  · obtain ⟨rfl, q2⟩ := q2
    have HO : Hid (O = .bad 30 p) := by show _ = _; rw [← HX.out.2.2.2.2.2]; unfold tagS; rw [HX.out.2.2.2.1, hr, if_neg (by omega), if_pos ⟨rfl, q2⟩]
    go_enter Tryd.func37, Tryd.ntmps37
    go_wp2
    (try simp only [Exit.inBlock, Exit.then]); refine bodyPost_ret (results_tmp4 rfl _ _ _) rfl ?_
    rw [HO.out]
    exact ⟨rfl, rfl⟩
  · have HO : Hid (O = .ok r (p + 1)) := by show _ = _; rw [← HX.out.2.2.2.2.2]; unfold tagS; rw [HX.out.2.2.2.1, hr, if_neg q1, if_neg q2]
    have q2b : (r == 0) = false ∨ ((r == 0) = true ∧ ¬ x < 64) := by
      by_cases h0 : r = 0
      · right; exact ⟨by simpa using h0, by omega⟩
      · left; simpa using h0
    rcases q2b with q2b | ⟨q2b, q2c⟩
    all_goals
      go_enter Tryd.func37, Tryd.ntmps37
      go_wp2
      (try simp only [Exit.inBlock, Exit.then]); refine bodyPost_ret (results_tmp4 rfl _ _ _) rfl ?_
      rw [HO.out]
      exact ⟨rfl, rfl⟩
end Go.Proofs.YtndcpjnfdgojkaaDoor
