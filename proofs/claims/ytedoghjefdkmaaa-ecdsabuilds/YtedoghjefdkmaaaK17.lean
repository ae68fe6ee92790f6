/-
  Der: the reference's tag and length.
-/
import Derived.Test.YtedoghjefdkmaaaK16
namespace Go.Proofs.Ytedoghjefdkmaaa
open Go.RowKit
def Rs.i : Rs → Nat
  | .bad _ _ => 0
  | .ok _ i => i
def Rs.a : Rs → Nat
  | .bad _ a => a
  | .ok _ _ => 0
theorem results_tmp4 {fn : Func} {t u v x : Tmp} (h : fn.results = #[.tmp t, .tmp u, .tmp v, .tmp x]) (tmps : Array Value) (P : Program) (w : World) :
    (results fn tmps).run P w = .ok (.tuple #[tmps.getD t undef, tmps.getD u undef, tmps.getD v undef, tmps.getD x undef]) w := by
  simp [results, h]
def RsVal (O : Rs) : Value := .tuple #[.int .i64 O.v, .int .i64 O.i, .int .i64 O.e, .int .i64 O.a]
set_option maxRecDepth 20000 in
set_option maxHeartbeats 4000000 in
theorem Rtag_any {w : World} (b off n c p : Nat) (M : List Int) (hM : Rd .u8 w b off M) (uM : U8s M) (hMl : M.length = n) (hn : n ≤ 16777216) (hp : p < n) :
    Calls Try.prog 40 #[.slice (some ⟨b, off, none⟩) n c, .int .i64 p] w fun e w' => e = .returned (RsVal (tagS M p)) ∧ w = w' := by
  obtain ⟨x, hx⟩ : ∃ x, M.getD p 0 = x := ⟨_, rfl⟩
  have hu8 := uM.at p
  rw [hx] at hu8
  obtain ⟨O, hO⟩ : ∃ O, tagS M p = O := ⟨_, rfl⟩
  have HX : Hid (Rd .u8 w b off M ∧ U8s M ∧ M.length = n ∧ M.getD p 0 = x ∧ U8 x ∧ tagS M p = O) := ⟨hM, uM, hMl, hx, hu8, hO⟩
  have cx : w.cell? ⟨b, off + p, none⟩ = some (.int .u8 x) := by rw [hM p (by omega), hx]
  have x0 := hu8.1
  have x1 := hu8.2
  rw [hO]
  clear hM uM hMl hx hu8 hO
  have hpI : (p : Int) < (n : Int) := by omega
  have hnI : (n : Int) ≤ 16777216 := by omega
  obtain ⟨r, hr⟩ : ∃ r, x % 32 = r := ⟨_, rfl⟩
  have HR : Hid (x % 32 = r) := hr
  have r0 : 0 ≤ r := by omega
  have r1 : r ≤ 31 := by omega
  by_cases q1 : r = 31
  · subst q1
    have HO : Hid (lng M (p + 1) 0 = O) := by show _ = _; rw [← HX.out.2.2.2.2.2]; unfold tagS; rw [HX.out.2.2.2.1, if_pos hr]
    go_enter Try.func40, Try.ntmps40
    go_wp2_with fail
    go_loopw [8, 9] (fun nv iv wr => ∃ (i : Nat) (t : Int), nv = .int .i64 t ∧ iv = .int .i64 i ∧ p + 1 ≤ i ∧ i ≤ n ∧ 0 ≤ t ∧ t ≤ 268435455 ∧ (i = p + 1 → t = 0) ∧ (p + 1 < i → 1 ≤ t) ∧ lng M i t = O ∧ w = wr) (fun _ iv _ => n - (intOf iv).toNat)
    case atStart => exact ⟨p + 1, 0, rfl, by go_num, by omega, by omega, by decide, by decide, fun _ => rfl, by omega, HO.out, rfl⟩
    case round =>
      obtain ⟨i, t, rfl, rfl, hi1, hi, t0, t1, ht0, ht1, hl, rfl⟩ := hrel
      have H1 : Hid ((i = p + 1 → t = 0) ∧ (p + 1 < i → 1 ≤ t) ∧ lng M i t = O) := ⟨ht0, ht1, hl⟩
      clear ht0 ht1 hl cx
      by_cases hlt : i < n
      · have l1 : (i : Int) < (n : Int) := by omega
        obtain ⟨y, hy⟩ : ∃ y, M.getD i 0 = y := ⟨_, rfl⟩
        have hyu := HX.out.2.1.at i
        rw [hy] at hyu
        have y0 := hyu.1
        have y1 := hyu.2
        have cy : w.cell? ⟨b, off + i, none⟩ = some (.int .u8 y) := by rw [HX.out.1 i (by have := HX.out.2.2.1; omega), hy]
        obtain ⟨z, hz⟩ : ∃ z, y % 128 = z := ⟨_, rfl⟩
        obtain ⟨t', ht'⟩ : ∃ t', t * 128 + z = t' := ⟨_, rfl⟩
        have HS : Hid (O = if t' = 0 ∨ 268435455 < t' ∨ (y < 128 ∧ t' < 31) then .bad 30 i else if y < 128 then .ok t' (i + 1) else lng M (i + 1) t') := by
          show _ = _
          rw [← H1.out.2.2]
          exact lng_step (by have := HX.out.2.2.1; omega) hy (by omega)
        have HZ : Hid (y % 128 = z ∧ t * 128 + z = t') := ⟨hz, ht'⟩
        have z0 : 0 ≤ z := by omega
        have z1 : z ≤ 127 := by omega
        have t20 : 0 ≤ t' := by omega
        have t21 : t' ≤ 34359738367 := by omega
        have HT : Hid (i ≠ p + 1 ∨ y ≠ 128 → y ≥ 128 → 1 ≤ t') := by
          intro h1 h2
          by_cases h3 : i = p + 1
          · have := H1.out.1 h3; omega
          · have := H1.out.2.1 (by omega); omega
        have HZ0 : Hid (t' = 0 → i = p + 1 ∧ (y = 128 ∨ y < 128)) := by
          intro h0
          by_cases h3 : i = p + 1
          · have := H1.out.1 h3; exact ⟨h3, by omega⟩
          · have := H1.out.2.1 (by omega); omega
        clear hy hyu
        by_cases q2 : 268435455 < t'
        · go_wp2
          (try simp only [Exit.inBlock, Exit.then]); refine bodyPost_ret (results_tmp4 rfl _ _ _) rfl ?_
          rw [HS.out, if_pos (by omega)]
          exact ⟨rfl, rfl⟩
        by_cases q3 : i = p + 1 ∧ y = 128
        · obtain ⟨q3, q3y⟩ := q3
          have q3yb : (y == 128) = true := by simpa using q3y
          have HY : Hid (y = 128) := q3y
          clear q3y
          have q3I : ((i : Int) == (p : Int) + 1) = true := by simp; omega
          have ht0 : t' = 0 := by have := H1.out.1 q3; have := HZ.out; have := HY.out; omega
          have HT0 : Hid (t' = 0) := ht0
          clear ht0 q3
          go_wp2
          (try simp only [Exit.inBlock, Exit.then]); refine bodyPost_ret (results_tmp4 rfl _ _ _) rfl ?_
          rw [HS.out, if_pos (.inl HT0.out)]
          exact ⟨rfl, rfl⟩
        have q3b : ((i : Int) == (p : Int) + 1) = false ∨ (((i : Int) == (p : Int) + 1) = true ∧ (y == 128) = false) := by
          by_cases h3 : i = p + 1
          · right; refine ⟨by simp; omega, ?_⟩; simp; omega
          · left; simp; omega
        rcases q3b with q3b | ⟨q3I, q3b⟩
        all_goals
          by_cases q4 : y < 128
          · by_cases q5 : t' < 31
            · go_wp2
              (try simp only [Exit.inBlock, Exit.then]); refine bodyPost_ret (results_tmp4 rfl _ _ _) rfl ?_
              rw [HS.out, if_pos (by omega)]
              exact ⟨rfl, rfl⟩
            · go_wp2
              (try simp only [Exit.inBlock, Exit.then]); refine bodyPost_ret (results_tmp4 rfl _ _ _) rfl ?_
              rw [HS.out, if_neg (by omega), if_pos q4]
              exact ⟨rfl, rfl⟩
          · go_wp2
            go_roundw
            case rel =>
              have h1 : 1 ≤ t' := HT.out (by omega) (by omega)
              refine ⟨i + 1, t', rfl, by go_num, by omega, by omega, t20, by omega, by omega, fun _ => h1, ?_, trivial⟩
              have h2 := HS.out
              rw [if_neg (by omega), if_neg (by omega)] at h2
              exact h2.symm
            case measure => simp [intOf]; omega
      · obtain rfl : i = n := by omega
        have l1 : ¬ (i : Int) < (i : Int) := by omega
        go_wp2
        (try simp only [Exit.inBlock, Exit.then]); refine bodyPost_ret (results_tmp4 rfl _ _ _) rfl ?_
        have h1 := H1.out.2.2
        rw [lng_end (by have := HX.out.2.2.1; omega), HX.out.2.2.1] at h1
        subst h1
        exact ⟨rfl, rfl⟩
  have q1b : (r != 31) = true := by simpa using q1
  by_cases q2 : r = 0 ∧ x < 64
  · obtain ⟨rfl, q2⟩ := q2
    have HO : Hid (O = .bad 30 p) := by show _ = _; rw [← HX.out.2.2.2.2.2]; unfold tagS; rw [HX.out.2.2.2.1, hr, if_neg (by omega), if_pos ⟨rfl, q2⟩]
    go_enter Try.func40, Try.ntmps40
    go_wp2
    (try simp only [Exit.inBlock, Exit.then]); refine bodyPost_ret (results_tmp4 rfl _ _ _) rfl ?_
    rw [HO.out]
    exact ⟨rfl, rfl⟩
  · have HO : Hid (O = .ok r (p + 1)) := by show _ = _; rw [← HX.out.2.2.2.2.2]; unfold tagS; rw [HX.out.2.2.2.1, hr, if_neg q1, if_neg q2]
    have q2b : (r == 0) = false ∨ ((r == 0) = true ∧ ¬ x < 64) := by
      by_cases h0 : r = 0
      · right; exact ⟨by simpa using h0, by omega⟩
      · left; simpa using h0
    rcases q2b with q2b | ⟨q2b, q2c⟩
    all_goals
      go_enter Try.func40, Try.ntmps40
      go_wp2
      (try simp only [Exit.inBlock, Exit.then]); refine bodyPost_ret (results_tmp4 rfl _ _ _) rfl ?_
      rw [HO.out]
      exact ⟨rfl, rfl⟩
end Go.Proofs.Ytedoghjefdkmaaa
/-
  Der: the reference's length.
-/
namespace Go.Proofs.Ytedoghjefdkmaaa
open Go.RowKit
set_option maxRecDepth 20000 in
set_option maxHeartbeats 4000000 in
theorem Rlength_any {w : World} (b off n c p : Nat) (M : List Int) (hM : Rd .u8 w b off M) (uM : U8s M) (hMl : M.length = n) (hn : n ≤ 16777216) (hp : p ≤ n) :
    Calls Try.prog 41 #[.slice (some ⟨b, off, none⟩) n c, .int .i64 p] w fun e w' => e = .returned (RsVal (lenS M p)) ∧ w = w' := by
  obtain ⟨O, hO⟩ : ∃ O, lenS M p = O := ⟨_, rfl⟩
  have HX : Hid (Rd .u8 w b off M ∧ U8s M ∧ M.length = n ∧ lenS M p = O) := ⟨hM, uM, hMl, hO⟩
  rw [hO]
  clear hM uM hMl hO
  have hnI : (n : Int) ≤ 16777216 := by omega
  by_cases hlt : p < n
  · obtain ⟨x, hx⟩ : ∃ x, M.getD p 0 = x := ⟨_, rfl⟩
    have hu8 := HX.out.2.1.at p
    rw [hx] at hu8
    have x0 := hu8.1
    have x1 := hu8.2
    have HXx : Hid (M.getD p 0 = x) := hx
    have cx : w.cell? ⟨b, off + p, none⟩ = some (.int .u8 x) := by rw [HX.out.1 p (by have := HX.out.2.2.1; omega), hx]
    clear hx hu8
    have hpI : (p : Int) < (n : Int) := by omega
    by_cases q1 : x = 128 ∨ x = 255
    · have HE : Hid (O = .bad 31 p) := by show _ = _; rw [← HX.out.2.2.2]; exact lenS_128 (by have := HX.out.2.2.1; omega) HXx.out q1
      rcases q1 with rfl | rfl
      all_goals
        go_enter Try.func41, Try.ntmps41
        go_wp2
        (try simp only [Exit.inBlock, Exit.then]); refine bodyPost_ret (results_tmp4 rfl _ _ _) rfl ?_
        rw [HE.out]
        exact ⟨rfl, rfl⟩
    have n1 : (x == 128) = false := by simp; omega
    have n2 : (x == 255) = false := by simp; omega
    by_cases q2 : x < 128
    · have HE : Hid (O = if (n : Int) < p + 1 + x then .bad 31 p else .ok x (p + 1)) := by
        show _ = _
        have h1 := lenS_lo (by have := HX.out.2.2.1; omega) HXx.out q2
        rw [HX.out.2.2.2, HX.out.2.2.1] at h1
        exact h1
      have n3 : ¬ 128 < x := by omega
      by_cases q3 : (n : Int) - ((p : Int) + 1) < x
      · go_enter Try.func41, Try.ntmps41
        go_wp2
        (try simp only [Exit.inBlock, Exit.then]); refine bodyPost_ret (results_tmp4 rfl _ _ _) rfl ?_
        rw [HE.out, if_pos (by omega)]
        exact ⟨rfl, rfl⟩
      · go_enter Try.func41, Try.ntmps41
        go_wp2
        (try simp only [Exit.inBlock, Exit.then]); refine bodyPost_ret (results_tmp4 rfl _ _ _) rfl ?_
        rw [HE.out, if_neg (by omega)]
        exact ⟨rfl, rfl⟩
    · obtain ⟨k, hk⟩ : ∃ k : Nat, x - 128 = k := ⟨(x - 128).toNat, by omega⟩
      have k1 : 0 < k := by omega
      have k2 : k ≤ 127 := by omega
      have k3 : 128 < x := by omega
      have k4 : x < 255 := by omega
      obtain ⟨p1, hp1⟩ : ∃ p1, p + 1 = p1 := ⟨_, rfl⟩
      have p1I : (p : Int) + 1 = (p1 : Int) := by omega
      obtain ⟨F, hF⟩ : ∃ F, fold8 M p1 k = F := ⟨_, rfl⟩
      obtain ⟨D, hD⟩ : ∃ D : Bool, decide (M.getD p1 0 ≠ 0 ∧ 128 ≤ F) = D := ⟨_, rfl⟩
      have HE : Hid (O = if n < p1 + k then .bad 2 n else if D = false then .bad 31 p else if (n : Int) - (p1 + k : Nat) < F then .bad 31 p else .ok F (p1 + k)) := by
        show _ = _
        have h1 := lenS_hi (F := F) (D := D) (by have := HX.out.2.2.1; omega) HXx.out k3 k4 hk (by rw [hp1]; exact hF) (by rw [hp1]; exact hD)
        rw [HX.out.2.2.2, HX.out.2.2.1, hp1] at h1
        exact h1
      have hFb := fold8_bd HX.out.2.1 p1 k
      rw [hF] at hFb
      obtain ⟨F0, F1⟩ := hFb
      have HFD : Hid (fold8 M p1 k = F ∧ decide (M.getD p1 0 ≠ 0 ∧ 128 ≤ F) = D ∧ p + 1 = p1) := ⟨hF, hD, hp1⟩
      clear hF hD
      obtain ⟨p2, hp2⟩ : ∃ p2, p1 + k = p2 := ⟨_, rfl⟩
      have p2I : (p1 : Int) + (k : Int) = (p2 : Int) := by omega
      have HP2 : Hid (p1 + k = p2) := hp2
      by_cases q3 : n < p2
      · have q3I : (n : Int) < (p2 : Int) := by omega
        clear hp1 hp2
        go_enter Try.func41, Try.ntmps41
        go_wp2
        (try simp only [Exit.inBlock, Exit.then]); refine bodyPost_ret (results_tmp4 rfl _ _ _) rfl ?_
        rw [HE.out, HP2.out, if_pos q3]
        exact ⟨rfl, rfl⟩
      have q3I : ¬ (n : Int) < (p2 : Int) := by omega
      have pkI : (p : Int) + (k : Int) = (p2 : Int) - 1 := by omega
      have hp2n : (p2 : Int) ≤ 16777216 := by omega
      go_enter Try.func41, Try.ntmps41
      go_wp2_with fail
      go_loopw [8, 11] (fun nv iv wr => ∃ (m i : Nat) (t : Int), nv = .int .i64 t ∧ iv = .int .i64 i ∧ m ≤ k ∧ i = p1 + m ∧ 0 ≤ t ∧ t ≤ 16777217 ∧ fold8 M p1 m = t ∧ w = wr) (fun _ iv _ => p2 - (intOf iv).toNat)
      case atStart => exact ⟨0, p1, 0, rfl, rfl, by omega, rfl, by decide, by decide, rfl, rfl⟩
      case round =>
        obtain ⟨m, i, t, rfl, rfl, hm, him, t0, t1, hl, rfl⟩ := hrel
        have H1 : Hid (fold8 M p1 m = t ∧ i = p1 + m) := ⟨hl, him⟩
        clear hl
        by_cases hlt2 : m < k
        · have l1 : (i : Int) ≤ (p2 : Int) - 1 := by omega
          have l2 : (i : Int) < (n : Int) := by omega
          obtain ⟨y, hy⟩ : ∃ y, M.getD i 0 = y := ⟨_, rfl⟩
          have hyu := HX.out.2.1.at i
          rw [hy] at hyu
          have y0 := hyu.1
          have y1 := hyu.2
          have cy : w.cell? ⟨b, off + i, none⟩ = some (.int .u8 y) := by rw [HX.out.1 i (by have := HX.out.2.2.1; omega), hy]
          have HF : Hid (fold8 M p1 (m + 1) = min (t * 256 + y) 16777217) := by
            show _ = _
            rw [fold8_at (M := M) (x := y) p1 m (by rw [← H1.out.2]; exact hy), H1.out.1]
          clear hy hyu
          obtain ⟨t2, ht2⟩ : ∃ t2, t * 256 + y = t2 := ⟨_, rfl⟩
          have HT2 : Hid (t * 256 + y = t2) := ht2
          have t20 : 0 ≤ t2 := by omega
          have t21 : t2 ≤ 4294968000 := by omega
          clear him
          by_cases q4 : 16777216 < t2
          · go_wp2
            go_roundw
            case rel => exact ⟨m + 1, i + 1, 16777217, rfl, by go_num, by omega, by have := H1.out.2; omega, by decide, by decide, by rw [HF.out, HT2.out]; omega, trivial⟩
            case measure => simp [intOf]; omega
          · go_wp2
            go_roundw
            case rel => exact ⟨m + 1, i + 1, t2, rfl, by go_num, by omega, by have := H1.out.2; omega, t20, by omega, by rw [HF.out, HT2.out]; omega, trivial⟩
            case measure => simp [intOf]; omega
        · obtain rfl : m = k := by omega
          have l1 : ¬ (i : Int) ≤ (p2 : Int) - 1 := by omega
          obtain rfl : F = t := by rw [← HFD.out.1, H1.out.1]
          obtain ⟨z, hz⟩ : ∃ z, M.getD p1 0 = z := ⟨_, rfl⟩
          have hzu := HX.out.2.1.at p1
          rw [hz] at hzu
          have z0 := hzu.1
          have z1 := hzu.2
          have cz : w.cell? ⟨b, off + p1, none⟩ = some (.int .u8 z) := by rw [HX.out.1 p1 (by have := HX.out.2.2.1; omega), hz]
          have p1n : (p1 : Int) < (n : Int) := by omega
          have HD : Hid (decide (z ≠ 0 ∧ 128 ≤ F) = D) := by show _ = _; rw [← hz]; exact HFD.out.2.1
          have nl : ¬ n < p1 + m := by omega
          clear hz hzu him hp1 hp2
          by_cases q4 : F < 128
          · have HDf : Hid (D = false) := by show _ = _; rw [← HD.out]; simp; omega
            go_wp2
            (try simp only [Exit.inBlock, Exit.then]); refine bodyPost_ret (results_tmp4 rfl _ _ _) rfl ?_
            rw [HE.out, if_neg nl, if_pos HDf.out]
            exact ⟨rfl, rfl⟩
          by_cases q5 : z = 0
          · subst q5
            have HDf : Hid (D = false) := by show _ = _; rw [← HD.out]; simp
            go_wp2
            (try simp only [Exit.inBlock, Exit.then]); refine bodyPost_ret (results_tmp4 rfl _ _ _) rfl ?_
            rw [HE.out, if_neg nl, if_pos HDf.out]
            exact ⟨rfl, rfl⟩
          have q5b : (z == 0) = false := by simpa using q5
          have HDt : Hid (D ≠ false) := by show _ ≠ _; rw [← HD.out]; simp; omega
          by_cases q6 : (n : Int) - (p2 : Int) < F
          · go_wp2
            (try simp only [Exit.inBlock, Exit.then]); refine bodyPost_ret (results_tmp4 rfl _ _ _) rfl ?_
            rw [HE.out, if_neg nl, if_neg HDt.out, HP2.out, if_pos q6]
            exact ⟨rfl, rfl⟩
          · go_wp2
            (try simp only [Exit.inBlock, Exit.then]); refine bodyPost_ret (results_tmp4 rfl _ _ _) rfl ?_
            rw [HE.out, if_neg nl, if_neg HDt.out, HP2.out, if_neg (by omega)]
            exact ⟨rfl, rfl⟩
  · obtain rfl : p = n := by omega
    go_enter Try.func41, Try.ntmps41
    go_wp2
    (try simp only [Exit.inBlock, Exit.then]); refine bodyPost_ret (results_tmp4 rfl _ _ _) rfl ?_
    have h1 := HX.out.2.2.2
    unfold lenS at h1
    rw [if_pos (by have := HX.out.2.2.1; omega), HX.out.2.2.1] at h1
    subst h1
    exact ⟨rfl, rfl⟩
end Go.Proofs.Ytedoghjefdkmaaa
/-
  append onto an empty slice without room, whatever it points at; steps of regions that draw their order.
-/
namespace Go.Proofs.Ytedoghjefdkmaaa
open Go.RowKit
/-- A row of the call's own, or a slice that is empty. -/
def Rw (k : IntKind) (e : TypeId) (B : Nat) (w : World) (v : Value) (xs : List Int) : Prop := Row k e B w v xs ∨ (xs = [] ∧ ∃ a c, v = .slice a 0 c)
theorem Rw.sl {k : IntKind} {e : TypeId} {B : Nat} {w : World} {v : Value} {xs : List Int} (h : Rw k e B w v xs) : Sl k w v xs := by
  rcases h with h | ⟨rfl, a, c, rfl⟩
  · exact h.sl
  · exact ⟨a, c, rfl, Nat.zero_le _, .inl rfl⟩
theorem Rw.below {k : IntKind} {e : TypeId} {B : Nat} {w w' : World} {v : Value} {xs : List Int} (h : Rw k e B w v xs) (hb : Below w.heap.size w w') : Rw k e B w' v xs := by
  rcases h with h | h
  · exact .inl (h.below hb)
  · exact .inr h
theorem Rw.alloc {k : IntKind} {e : TypeId} {B : Nat} {w : World} {v : Value} {xs : List Int} (h : Rw k e B w v xs) (o : Obj) : Rw k e B (w.alloc o) v xs := h.below ((Below.refl _ _).alloc (Nat.le_refl _) o)
theorem Rw.mono {k : IntKind} {e : TypeId} {B B' : Nat} {w : World} {v : Value} {xs : List Int} (h : Rw k e B w v xs) (hb : B' ≤ B) : Rw k e B' w v xs := by
  rcases h with h | h
  · exact .inl (h.mono hb)
  · exact .inr h
theorem Rw.ne {k : IntKind} {e : TypeId} {B : Nat} {w : World} {v : Value} {xs : List Int} (h : Rw k e B w v xs) : ∃ a c, v = .slice a xs.length c := by
  rcases h with h | ⟨rfl, a, c, rfl⟩
  · exact h.ne
  · exact ⟨a, c, rfl⟩
theorem run_ap0 {P : Program} (w : World) (t tx ty e : TypeId) (i : TypeInfo) (k : IntKind) (ht : P.underlying t = some (.slice e)) (hi : P.info? e = some i) (hz : i.zero = some (.int k 0)) (hsize : i.size = 1) (hby : 0 < i.bytes)
    (a : Addr) {B : Nat} {x : Value} {ys : List Int} (hs : Src P 1 tx x ys.length (ys.map (Value.int k)) w) (hb : ys.length * i.bytes ≤ 140737488355328) (hB : B ≤ w.heap.size) :
    ∃ v' w', (Builtin.append_ #[t, tx] ty #[.slice (some a) 0 0, x]).run P w = .ok v' w' ∧ Rw k e B w' v' ys ∧ Below w.heap.size w w' := by
  have hle : ys.length ≤ 140737488355328 := Nat.le_trans (Nat.le_mul_of_pos_right _ hby) hb
  have hs1 : Src P i.size tx x ys.length (ys.map (Value.int k)) w := by rw [hsize]; exact hs
  by_cases h0 : ys.length = 0
  · have hy : ys = [] := List.eq_nil_of_length_eq_zero h0
    subst hy
    refine ⟨.slice (some a) 0 0, w, ?_, .inr ⟨rfl, _, _, rfl⟩, Below.refl _ _⟩
    have h1 := hs1.cells
    have h2 := hs1.len
    simp only [List.length_nil, List.map_nil] at h1 h2
    rcases hs1.kind with ⟨e', hk⟩ | hk
    · simp [Builtin.append_, run_underlying ht, run_underlying hk, sizeOf, typeInfo, hi, h2, h1, storeCells]
    · simp [Builtin.append_, run_underlying ht, run_underlying hk, sizeOf, typeInfo, hi, h2, h1, storeCells]
  · have hold : (Builtin.firstCells i.size 0 (.slice (some a) 0 0)).run P w.drew = .ok ([] : List Value).toArray w.drew := run_firstCells_some w.drew i.size 0 a 0 0 [] (by simp) (by simp)
    have h1 := run_append_grow_src (P := P) w t tx ty e i (.int k 0) ht hi hz (some a) 0 0 _ hold x ys.length _ hs1 (by omega) (by omega) (growslice_fits (by omega) (by rw [Nat.zero_add]; exact hb))
    refine ⟨_, _, h1, .inl ?_, (Below.refl _ _).drew.alloc (Nat.le_refl _) _⟩
    have hge := grownCap_ge w (0 + ys.length) 0 e
    have hcm : grownCap w (0 + ys.length) 0 e ≤ maxLen := grownCap_le_maxLen w _ 0 e (by unfold maxLen; omega)
    obtain ⟨C, hC⟩ : ∃ C, grownCap w (0 + ys.length) 0 e = 0 + ys.length + C := ⟨_, (Nat.add_sub_of_le hge).symm⟩
    rw [hC] at hcm ⊢
    have hzc : Builtin.zeroCells (Value.cells (.int k 0)) C = (List.replicate C (.int k 0)).toArray := by
      apply Array.ext'
      simp only [Builtin.zeroCells, Value.cells]
      simp
      rw [List.eq_replicate_iff]
      exact ⟨by simp, fun y hy => by obtain ⟨j, _, rfl⟩ := List.mem_map.1 hy; simp [Nat.mod_one]⟩
    refine .inr ⟨w.heap.size, ys ++ List.replicate C 0, ?_, hB, ?_, by simp, List.take_left, by simp; omega⟩
    · simp
    · unfold Arr
      rw [show 0 + ys.length + C - (0 + ys.length) = C by omega, hzc]
      have := heap_alloc_new w.drew (.cells ((ys.map (Value.int k)).toArray ++ (List.replicate C (Value.int k 0)).toArray) e)
      simp only [List.map_append, List.map_replicate]
      rw [show (w.drew.heap.size) = w.heap.size from rfl] at this
      simp only [List.nil_append]
      rw [this]; simp
theorem step_ap0 {P : Program} {ops : Array Oper} {o : Oper} {a : Act} {w : World} {K : Act → World → Prop} {Q : Exit → Act → World → Prop} {E : Prop} (hgd : o.guard = none) (s x : Operand) (t tx : TypeId)
    (ho : o.op = .call { callee := .builtin .append, args := #[s, x], argTypes := #[t, tx] }) (k : IntKind) (e : TypeId) (bytes : Nat) (ht : P.underlying t = some (.slice e))
    (hi : (P.info? e).map (fun i => (i.zero, i.size, i.bytes)) = some (some (.int k 0), 1, bytes)) (hby : 0 < bytes)
    (B : Nat) (ad : Addr) (hs : a.eval s = .slice (some ad) 0 0) (u : Value) (ys : List Int) (hx : a.eval x = u) (hy : Src P 1 tx u ys.length (ys.map (Value.int k)) w)
    (hb : ys.length * bytes ≤ 140737488355328) (hB : B ≤ w.heap.size)
    (h : ∀ v' w', Rw k e B w' v' ys → Below w.heap.size w w' → K (a.put o.dst v') w') : if Region.wanted o (yielded ops a.tmps) = true then Oper.wp P o a w K Q else E := by
  have hw : Region.wanted o (yielded ops a.tmps) = true := by simp [Region.wanted, hgd]
  rw [if_pos hw]
  obtain ⟨i0, hi0, hz0, hz1, hz2⟩ := info_parts hi
  obtain ⟨v', w', hrun, h2, h3⟩ := run_ap0 (P := P) w t tx o.type e i0 k ht hi0 hz0 hz1 (by omega) ad (B := B) hy (by rw [hz2]; exact hb) hB
  unfold Oper.wp execOp
  simp only [ho, resolve, invoke, builtin, Sem.run_bind, Sem.run_pure, Result.andThen_ok, List.map_toArray, List.map_cons, List.map_nil, hs, hx, hrun]
  exact h v' w' h2 h3
theorem step_apm {P : Program} {ops : Array Oper} {o : Oper} {a : Act} {w : World} {K : Act → World → Prop} {Q : Exit → Act → World → Prop} {E : Prop} (hgd : o.guard = none) (s x : Operand) (t tx : TypeId)
    (ho : o.op = .call { callee := .builtin .append, args := #[s, x], argTypes := #[t, tx] }) (m : Nat) (z : Value) (hzs : z.cells.size = m) (e : TypeId) (bytes : Nat) (ht : P.underlying t = some (.slice e))
    (hi : (P.info? e).map (fun i => (i.zero, i.size, i.bytes)) = some (some z, m, bytes)) (hby : 0 < bytes)
    (B : Nat) (v : Value) (n : Nat) (xs : List Value) (hs : a.eval s = v) (hr : MRow m e B w v n xs) (u : Value) (k : Nat) (ys : List Value) (hx : a.eval x = u) (hy : Src P m tx u k ys w)
    (hb : (n + k) * bytes ≤ 140737488355328) (hB : B ≤ w.heap.size)
    (h : ∀ v' w', MRow m e B w' v' (n + k) (xs ++ ys) → MGrew e w w' v → K (a.put o.dst v') w') : if Region.wanted o (yielded ops a.tmps) = true then Oper.wp P o a w K Q else E := by
  have hw : Region.wanted o (yielded ops a.tmps) = true := by simp [Region.wanted, hgd]
  rw [if_pos hw]
  obtain ⟨i0, hi0, hz0, hz1, hz2⟩ := info_parts hi
  obtain ⟨v', w', hrun, h2, h3⟩ := run_apm (P := P) w t tx o.type e i0 m z ht hi0 hz0 hz1 hzs (by omega) hr hy (by rw [hz2]; exact hb) hB
  unfold Oper.wp execOp
  simp only [ho, resolve, invoke, builtin, Sem.run_bind, Sem.run_pure, Result.andThen_ok, List.map_toArray, List.map_cons, List.map_nil, hs, hx, hrun]
  exact h v' w' h2 h3
end Go.Proofs.Ytedoghjefdkmaaa
/-
  Der: rows of elements that are read.
-/
namespace Go.Proofs.Ytedoghjefdkmaaa
open Go.RowKit
/-- A slice of elements that can be read; the slice itself is the call's own. -/
def TlvR (B : Nat) (w : World) (v : Value) (L : List El) : Prop :=
  ∃ Y : List Tc, Y.map (·.1) = L ∧ MRow 5 48 B w v Y.length (tlvCells Y) ∧ ∀ y ∈ Y, Rw .u8 5 B w y.2.1 y.1.d ∧ Rw .u8 5 B w y.2.2 y.1.r
theorem TlvR.nil (B : Nat) (w : World) : TlvR B w (.slice none 0 0) [] := ⟨[], rfl, MRow.nil _ _ _ _, by simp⟩
theorem TlvR.below {B : Nat} {w w' : World} {v : Value} {L : List El} (h : TlvR B w v L) (hb : Below w.heap.size w w') : TlvR B w' v L := by
  obtain ⟨Y, h1, h2, h3⟩ := h
  exact ⟨Y, h1, h2.below hb, fun y hy => ⟨(h3 y hy).1.below hb, (h3 y hy).2.below hb⟩⟩
theorem TlvR.mono {B B' : Nat} {w : World} {v : Value} {L : List El} (h : TlvR B w v L) (hb : B' ≤ B) : TlvR B' w v L := by
  obtain ⟨Y, h1, h2, h3⟩ := h
  exact ⟨Y, h1, h2.mono hb, fun y hy => ⟨(h3 y hy).1.mono hb, (h3 y hy).2.mono hb⟩⟩
theorem Tlvs.r {B : Nat} {w : World} {v : Value} {L : List El} (h : Tlvs B w v L) : TlvR B w v L := by
  obtain ⟨Y, h1, h2, h3, _⟩ := h
  exact ⟨Y, h1, h2, fun y hy => ⟨.inl (h3 y hy).1, .inl (h3 y hy).2⟩⟩
theorem Rw.mgrew {B : Nat} {w w' : World} {v u : Value} {xs : List Int} (h : Rw .u8 5 B w v xs) (hg : MGrew 48 w w' u) : Rw .u8 5 B w' v xs := by
  rcases h with h | h
  · exact .inl (h.mgrew hg)
  · exact .inr h
end Go.Proofs.Ytedoghjefdkmaaa
/-
  Der: the reference's Split.
-/
namespace Go.Proofs.Ytedoghjefdkmaaa
open Go.RowKit
theorem sz_of {w W : World} (hb : Below w.heap.size w W) : w.heap.size ≤ W.heap.size := hb.size
theorem ks_al {w W : World} {p : Addr} {v : Value} {o : Obj} (hp : p.block < w.heap.size) (hv : w.cell? p = some v) (h : Below w.heap.size w W) : Below w.heap.size w (W.alloc o) ∧ (W.alloc o).cell? p = some v :=
  ⟨al2' h, ((al2' h).cell hp).trans hv⟩
theorem ks_ald {w W : World} {p : Addr} {v : Value} {o : Obj} (hp : p.block < w.heap.size) (hv : w.cell? p = some v) (h : Below w.heap.size w W.drew) : Below w.heap.size w (W.alloc o).drew ∧ (W.alloc o).drew.cell? p = some v := by
  have h1 : Below w.heap.size w W := h.trans ⟨rfl, rfl, rfl, Nat.le_refl _, fun _ _ => rfl⟩
  have h2 : Below w.heap.size w (W.alloc o).drew := (al2' h1).drew
  exact ⟨h2, (h2.cell hp).trans hv⟩
theorem ks_below {w W W' : World} {p : Addr} {v : Value} (hp : p.block < w.heap.size) (hv : w.cell? p = some v) (h : Below w.heap.size w W) (h' : Below W.heap.size W W') : Below w.heap.size w W' ∧ W'.cell? p = some v :=
  ⟨below_via h h' (Nat.le_refl _), ((below_via h h' (Nat.le_refl _)).cell hp).trans hv⟩
theorem ks_tr {w W W' : World} {p : Addr} {v : Value} (hp : p.block < w.heap.size) (hv : w.cell? p = some v) (h : Below w.heap.size w W) (h' : Below w.heap.size W W') : Below w.heap.size w W' ∧ W'.cell? p = some v :=
  ⟨h.trans h', ((h.trans h').cell hp).trans hv⟩
/-- The slice and its rows, with the values by name. -/
def TY (B : Nat) (w : World) (v : Value) (k : Nat) (Y : List Tc) : Prop := MRow 5 48 B w v k (tlvCells Y) ∧ ∀ y ∈ Y, Rw .u8 5 B w y.2.1 y.1.d ∧ Rw .u8 5 B w y.2.2 y.1.r
theorem TY.below {B : Nat} {w w' : World} {v : Value} {k : Nat} {Y : List Tc} (h : TY B w v k Y) (hb : Below w.heap.size w w') : TY B w' v k Y :=
  ⟨h.1.below hb, fun y hy => ⟨(h.2 y hy).1.below hb, (h.2 y hy).2.below hb⟩⟩
theorem TY.alloc {B : Nat} {w : World} {v : Value} {k : Nat} {Y : List Tc} (h : TY B w v k Y) (o : Obj) : TY B (w.alloc o) v k Y := h.below (al1 o)
theorem TY.drew {B : Nat} {w : World} {v : Value} {k : Nat} {Y : List Tc} (h : TY B w v k Y) : TY B w.drew v k Y := h.below ⟨rfl, rfl, rfl, Nat.le_refl _, fun _ _ => rfl⟩
def SplitOutR (n : Nat) (B : Nat) (w : World) (e : Ending) : Sp → Prop
  | .bad er a => e = .returned (.tuple #[.slice none 0 0, .int .i64 er, .int .i64 a])
  | .ok L => ∃ v, e = .returned (.tuple #[v, .int .i64 0, .int .i64 n]) ∧ TlvR B w v L
set_option maxRecDepth 20000 in
set_option maxHeartbeats 4000000 in
theorem RSplit_ne {w : World} (b off n c : Nat) (M : List Int) (hM : Rd .u8 w b off M) (uM : U8s M) (hMl : M.length = n) (hn : n ≤ 16777216) (hnc : n ≤ c) (hb : b < w.heap.size) :
    Calls Try.prog 23 #[.slice (some ⟨b, off, none⟩) n c] w fun e w' => SplitOutR n w.heap.size w' e (splitS M) ∧ Below w.heap.size w w' := by
  obtain ⟨O, hO⟩ : ∃ O, spl M 0 [] = O := ⟨_, rfl⟩
  have HO : Hid (spl M 0 [] = O ∧ splitS M = O) := ⟨hO, by unfold splitS; rw [if_neg (by omega), hO]⟩
  have HX : Hid (Rd .u8 w b off M ∧ U8s M ∧ M.length = n) := ⟨hM, uM, hMl⟩
  have hnI : (n : Int) ≤ 16777216 := by omega
  rw [HO.out.2]
  clear hM uM hMl hO
  go_enter Try.func23, Try.ntmps23
  go_wp2_with fail
  go_loopw [5, 6] (fun lv pv wr => ∃ (p : Nat) (L : List El) (v : Value), v = lv ∧ pv = .int .i64 p ∧ Below w.heap.size w wr ∧ TlvR w.heap.size wr v L ∧ spl M p L = O ∧ L.length ≤ 65536 ∧ p ≤ n) (fun _ pv _ => n - (intOf pv).toNat)
  case atStart => exact ⟨0, [], _, rfl, rfl, Below.refl _ _, TlvR.nil _ _, HO.out.1, by simp, by omega⟩
  case round =>
    obtain ⟨p, L, v, rfl, rfl, hbl, ⟨Y, hYL, hm, hrows⟩, hO, hL, hp⟩ := hrel
    have hYl : Y.length = L.length := by rw [← hYL, List.length_map]
    obtain ⟨al, cl, hv⟩ := hm.ne
    obtain ⟨k, hk⟩ : ∃ k, Y.length = k := ⟨_, rfl⟩
    rw [hk] at hv hm
    subst hv
    have hkL : k ≤ 65536 := by omega
    have H2 : Hid (Below w.heap.size w wr ∧ Y.map (·.1) = L ∧ MRow 5 48 w.heap.size wr (.slice al k cl) k (tlvCells Y) ∧ (∀ y ∈ Y, Rw .u8 5 w.heap.size wr y.2.1 y.1.d ∧ Rw .u8 5 w.heap.size wr y.2.2 y.1.r) ∧ spl M p L = O ∧ Y.length = k ∧ L.length = k) := ⟨hbl, hYL, hm, hrows, hO, hk, by omega⟩
    clear hYL hm hrows hO hk hYl hL
    by_cases hlt : p < n
    · have l1 : (p : Int) < (n : Int) := by omega
      by_cases hmany : k = 65536
      · subst hmany
        go_wp2
        go_ret3
        have h1 := H2.out.2.2.2.2.1
        rw [spl_many (by have := HX.out.2.2; omega) (by have := H2.out.2.2.2.2.2; omega)] at h1
        subst h1
        exact ⟨rfl, H2.out.1⟩
      have hmb : ¬ (65536 : Int) ≤ (k : Int) := by omega
      go_wp2_with fail
      refine (Rtag_any b off n c p M (below_rd H2.out.1 hb HX.out.1) HX.out.2.1 HX.out.2.2 hn hlt).mono ?_
      obtain ⟨T, hT⟩ : ∃ T, tagS M p = T := ⟨_, rfl⟩
      have HT : Hid (tagS M p = T) := hT
      rw [hT]
      clear hT
      intro e v2 h2
      cases T with
      | bad er a =>
        obtain ⟨rfl, rfl⟩ : e = .returned (.tuple #[.int .i64 0, .int .i64 0, .int .i64 er, .int .i64 a]) ∧ wr = v2 := h2
        have hbad := tagS_bad (M := M) (p := p) (by have := HX.out.2.2; omega) HT.out
        have hne : (er != 0) = true := by simp; omega
        have HE : Hid (O = .bad er a) := by
          show _ = _
          rw [← H2.out.2.2.2.2.1]; refine spl_bad (by have := HX.out.2.2; omega) (by have := H2.out.2.2.2.2.2; omega) ?_
          unfold elemS; rw [HT.out]
        clear hbad
        go_wp2
        go_ret3
        rw [HE.out]
        exact ⟨rfl, H2.out.1⟩
      | ok t i =>
        obtain ⟨rfl, rfl⟩ : e = .returned (.tuple #[.int .i64 t, .int .i64 i, .int .i64 0, .int .i64 0]) ∧ wr = v2 := h2
        have hok := tagS_ok (M := M) (p := p) HX.out.2.1 (by have := HX.out.2.2; omega) HT.out
        have hiM : i ≤ n := by have := HX.out.2.2; omega
        have t0 := hok.2.2.1
        have t1 := hok.2.2.2
        have HI : Hid (p < i) := hok.1
        clear hok
        go_wp2_with fail
        refine (Rlength_any b off n c i M (below_rd H2.out.1 hb HX.out.1) HX.out.2.1 HX.out.2.2 hn hiM).mono ?_
        obtain ⟨S, hS⟩ : ∃ S, lenS M i = S := ⟨_, rfl⟩
        have HS : Hid (lenS M i = S) := hS
        rw [hS]
        clear hS
        intro e v2 h2
        cases S with
        | bad er a =>
          obtain ⟨rfl, rfl⟩ : e = .returned (.tuple #[.int .i64 0, .int .i64 0, .int .i64 er, .int .i64 a]) ∧ wr = v2 := h2
          have hbad := lenS_bad (M := M) (i := i) (by have := HX.out.2.2; omega) HS.out
          have hne : (er != 0) = true := by simp; omega
          have HE : Hid (O = .bad er a) := by
            show _ = _
            rw [← H2.out.2.2.2.2.1]; refine spl_bad (by have := HX.out.2.2; omega) (by have := H2.out.2.2.2.2.2; omega) ?_
            unfold elemS; rw [HT.out]; simp only []; rw [HS.out]
          clear hbad
          go_wp2
          go_ret3
          rw [HE.out]
          exact ⟨rfl, H2.out.1⟩
        | ok lv j =>
          obtain ⟨rfl, rfl⟩ : e = .returned (.tuple #[.int .i64 lv, .int .i64 j, .int .i64 0, .int .i64 0]) ∧ wr = v2 := h2
          have hlo := lenS_ok HX.out.2.1 HS.out
          obtain ⟨l, rfl⟩ := Int.eq_ofNat_of_zero_le hlo.2.1
          obtain ⟨E, hE⟩ : ∃ E, j + l = E := ⟨_, rfl⟩
          have hMn := HX.out.2.2
          have HE : Hid (elemS M p = .ok t j E ∧ spl M E (L ++ [elAt M p t j E]) = O) := by
            have h1 : elemS M p = .ok t j E := by unfold elemS; rw [HT.out]; simp only []; rw [HS.out]; simp only [Int.toNat_natCast]; rw [hE]
            refine ⟨h1, ?_⟩
            rw [← H2.out.2.2.2.2.1]
            exact (spl_ok HX.out.2.1 (by have := HX.out.2.2; omega) (by have := H2.out.2.2.2.2.2; omega) h1).symm
          have hEI : (j : Int) + (l : Int) = (E : Int) := by omega
          have hpj : p < j := by have := HI.out; omega
          have hjE : j ≤ E := by omega
          have hEn : E ≤ n := by omega
          clear hlo hMn
          obtain ⟨x, hx⟩ : ∃ x, M.getD p 0 = x := ⟨_, rfl⟩
          have hu8 := HX.out.2.1.at p
          rw [hx] at hu8
          have x0 := hu8.1
          have x1 := hu8.2
          have cx : wr.cell? ⟨b, off + p, none⟩ = some (.int .u8 x) := by rw [below_rd H2.out.1 hb HX.out.1 p (by have := HX.out.2.2; omega), hx]
          obtain ⟨X1, hX1⟩ : ∃ X1, (M.drop j).take (E - j) = X1 := ⟨_, rfl⟩
          obtain ⟨X2, hX2⟩ : ∃ X2, (M.drop p).take (E - p) = X2 := ⟨_, rfl⟩
          have HEl : Hid (elAt M p t j E = ⟨x / 64, t, x / 32 % 2 == 1, X1, X2⟩) := by
            show _ = _
            unfold elAt
            rw [hx, hX1, hX2]
            congr 1
          have HQ : Hid (IntKind.i64.wrap (IntKind.u8.wrap (x.tdiv 64)) = x / 64 ∧ (IntKind.u8.wrap (x.tdiv 32)).tmod 2 = x / 32 % 2) := by
            rw [Int.tdiv_eq_ediv_of_nonneg x0, Int.tdiv_eq_ediv_of_nonneg x0, IntKind.wrap_u8, IntKind.wrap_u8, IntKind.wrap_i64]
            refine ⟨by omega, ?_⟩
            rw [Int.tmod_eq_emod_of_nonneg (by omega)]; omega
          have HL1 : Hid (X1.length = E - j ∧ X2.length = E - p ∧ E ≤ 16777216) := by
            have := HX.out.2.2
            refine ⟨?_, ?_, by omega⟩
            · rw [← hX1, List.length_take, List.length_drop]; omega
            · rw [← hX2, List.length_take, List.length_drop]; omega
          obtain ⟨ba, hba⟩ : ∃ ba : Option Addr, (if c = j then some ⟨b, off, none⟩ else some ⟨b, off + j, none⟩) = ba := ⟨_, rfl⟩
          have HC : Hid (∀ W : World, Below w.heap.size w W → Sl .u8 W (.slice ba (E - j) (c - j)) X1) := fun W hW => by
            have h0 := hW
            have := rd_slo (c := c) (Nat.lt_of_lt_of_le hb h0.size) (below_rd h0 hb HX.out.1) j E hjE (by have := HX.out.2.2; omega) (by omega)
            rw [← hba, ← hX1]; exact this
          have HC2 : Hid (∀ W : World, Below w.heap.size w W → Sl .u8 W (.slice (some ⟨b, off + p, none⟩) (E - p) (c - p)) X2) := fun W hW => by
            have h0 := hW
            have := rd_slo (c := c) (Nat.lt_of_lt_of_le hb h0.size) (below_rd h0 hb HX.out.1) p E (by omega) (by have := HX.out.2.2; omega) (by omega)
            rw [if_neg (by omega)] at this
            rw [← hX2]; exact this
          have cw : w.cell? ⟨b, off + p, none⟩ = some (.int .u8 x) := by rw [HX.out.1 p (by have := HX.out.2.2; omega), hx]
          have hT : TY w.heap.size wr (.slice al k cl) k Y := ⟨H2.out.2.2.1, H2.out.2.2.2.1⟩
          have hbw : Below w.heap.size w wr := H2.out.1
          have hjI : (j : Int) ≤ (E : Int) := by omega
          have hpE : (p : Int) ≤ (E : Int) := by omega
          have hEc : (E : Int) ≤ (c : Int) := by omega
          have hpc : ¬ c = p := by omega
          have hwE : IntKind.i64.wrap (E : Int) = (E : Int) := by rw [IntKind.wrap_i64]; omega
          have hpE2 : p ≤ E := by omega
          have x10 : x / 64 ≤ 3 := by omega
          clear hu8 hbl hX1 hX2
          go_upto_region 14 with (fail)
          go_region_held3 (fun W => Below w.heap.size w W ∧ W.cell? ⟨b, off + p, none⟩ = some (.int .u8 x)) (first | exact ⟨hbw.drew, cx⟩ | exact ks_ald hb cw (And.left (by assumption)) | exact ks_al hb cw (And.left (by assumption)) | exact ks_below hb cw (And.left (by assumption)) (by assumption) | exact ks_tr hb cw (And.left (by assumption)) (by assumption))
            (first
              | (refine step_ap0 (by rfl) (.tmp 63) (.tmp 69) 22 22 (by rfl) .u8 5 1 Try.und8 Try.info8 (by decide) w.heap.size _ (by rfl) _ X1 (by rfl) (src_sl Try.und8 (HC.out _ (And.left (by assumption)))) (by have := HL1.out; omega) (sz_of (And.left (by assumption))) ?_; intro v5 w5 hr5 hb5; obtain ⟨a5, c5, hv5⟩ := hr5.ne; rw [HL1.out.1] at hv5; subst hv5; have hT5 := (by first | exact (hT.alloc _).drew.below hb5 | exact ((hT.alloc _).alloc _).drew.below hb5 : TY w.heap.size w5 (.slice al k cl) k Y))
              | (refine step_ap0 (by rfl) (.tmp 71) (.tmp 77) 22 22 (by rfl) .u8 5 1 Try.und8 Try.info8 (by decide) w.heap.size _ (by rfl) _ X2 (by rfl) (src_sl Try.und8 (HC2.out _ (And.left (by assumption)))) (by have := HL1.out; omega) (sz_of (And.left (by assumption))) ?_; intro v7 w7 hr7 hb7; obtain ⟨a7, c7, hv7⟩ := hr7.ne; rw [HL1.out.2.1] at hv7; subst hv7; have hT7 := (by first | exact (hT5.alloc _).below hb7 | exact hT5.below hb7 : TY w.heap.size w7 (.slice al k cl) k Y); have hr57 := (by first | exact (hr5.alloc _).below hb7 | exact hr5.below hb7 : Rw .u8 5 w.heap.size w7 (.slice a5 (E - j) c5) X1))
              | (refine step_apm (by rfl) (.tmp 48) (.tmp 80) 51 51 (by rfl) 5 zeroT rfl 48 72 Try.undT Try.infoT (by decide) w.heap.size _ k _ (by rfl) (hT7.alloc _).1 _ 1 [.int .i64 (IntKind.i64.wrap (IntKind.u8.wrap (x.tdiv 64))), .int .i64 t, .bool ((IntKind.u8.wrap (x.tdiv 32)).tmod 2 == 1), .slice a5 (E - j) c5, .slice a7 (E - p) c7] (by rfl) (src_m (T := 48) Try.undT 5 (blk_nw (by simp) rfl) rfl (tlv_one _ _ _ _ _ _ _ _ _)) (by omega) (sz_of (And.left (by assumption))) ?_; intro v9 w9 hr9 hg9; have hb9 := hg9.below (hT7.alloc _).1 (sz_of (And.left (by assumption)))))
          all_goals
            have hbw9 : Below w.heap.size w w9 := And.left (by assumption)
            have H9 : Hid (Below w.heap.size w w9 ∧ TlvR w.heap.size w9 v9 (L ++ [elAt M p t j E])) := by
              refine ⟨hbw9, Y ++ [(elAt M p t j E, .slice a5 (E - j) c5, .slice a7 (E - p) c7)], ?_, ?_, ?_⟩
              · rw [List.map_append, H2.out.2.1]; rfl
              · rw [tlvCells_snoc, List.length_append, H2.out.2.2.2.2.2.1, HEl.out]
                rw [HQ.out.1, HQ.out.2] at hr9
                exact hr9
              · intro y hy
                rcases List.mem_append.1 hy with hy | hy
                · exact ⟨((hT7.2 y hy).1.alloc _).mgrew hg9, ((hT7.2 y hy).2.alloc _).mgrew hg9⟩
                · rw [List.mem_singleton] at hy
                  subst hy
                  rw [HEl.out]
                  exact ⟨(hr57.alloc _).mgrew hg9, (hr7.alloc _).mgrew hg9⟩
            clear hbw9 hr9 hg9 hb9 hT7 hr57 hr7 hT5 hr5 hb5 hb7 hT
            go_wp2
            go_roundw
            case rel => exact ⟨E, _, _, rfl, rfl, H9.out.1, H9.out.2, HE.out.2, by rw [List.length_append, H2.out.2.2.2.2.2.2]; show k + 1 ≤ _; omega, hEn⟩
            case measure => simp [intOf]; omega
    · obtain rfl : p = n := by omega
      have l1 : ¬ (p : Int) < (p : Int) := by omega
      go_wp2
      go_ret3
      have h1 := H2.out.2.2.2.2.1
      rw [spl_end (by have := HX.out.2.2; omega)] at h1
      subst h1
      refine ⟨⟨_, rfl, ?_⟩, H2.out.1⟩
      have h2 := H2.out
      exact ⟨Y, h2.2.1, by rw [h2.2.2.2.2.2.1]; exact h2.2.2.1, h2.2.2.2.1⟩
end Go.Proofs.Ytedoghjefdkmaaa
