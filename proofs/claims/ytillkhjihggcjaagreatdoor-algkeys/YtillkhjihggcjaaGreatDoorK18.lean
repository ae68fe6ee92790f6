/-
  Der: the reference's length.
-/
import Derived.Test.YtillkhjihggcjaaGreatDoorK17
namespace Go.Proofs.YtillkhjihggcjaaGreatDoor
open Go.RowKit
set_option maxRecDepth 20000 in
set_option maxHeartbeats 4000000 in
theorem Rlength_any {w : World} (b off n c p : Nat) (M : List Int) (hM : Rd .u8 w b off M) (uM : U8s M) (hMl : M.length = n) (hn : n ≤ 16777216) (hp : p ≤ n) :
    Calls Tryz.prog 68 #[.slice (some ⟨b, off, none⟩) n c, .int .i64 p] w fun e w' => e = .returned (RsVal (lenS M p)) ∧ w = w' := by
  obtain ⟨O, hO⟩ : ∃ O, lenS M p = O := ⟨_, rfl⟩
  have HX : Hid (Rd .u8 w b off M ∧ U8s M ∧ M.length = n ∧ lenS M p = O) := ⟨hM, uM, hMl, hO⟩
  rw [hO]
  clear hM uM hMl hO
  have hnI : (n : Int) ≤ 16777216 := by omega
  by_cases hlt : p < n
  · obtain ⟨x, hx⟩ : ∃ x, M.getD p 0 = x := ⟨_, rfl⟩
    have hu8 := HX.out.2.1.at p
    rw [hx] at hu8
    have x0 := hu8.1
    have x1 := hu8.2
    have HXx : Hid (M.getD p 0 = x) := hx
    have cx : w.cell? ⟨b, off + p, none⟩ = some (.int .u8 x) := by rw [HX.out.1 p (by have := HX.out.2.2.1; omega), hx]
    clear hx hu8
    have hpI : (p : Int) < (n : Int) := by omega
    by_cases q1 : x = 128 ∨ x = 255
    · have HE : Hid (O = .inl (31, p)) := by show _ = _; rw [← HX.out.2.2.2]; exact lenS_128 (by have := HX.out.2.2.1; omega) HXx.out q1
      rcases q1 with rfl | rfl
      all_goals
        go_enter Tryz.func68, Tryz.ntmps68
        go_wp2
        (try simp only [Exit.inBlock, Exit.then]); refine bodyPost_ret (results_tmp4 rfl _ _ _) rfl ?_
        rw [HE.out]
        exact ⟨rfl, rfl⟩
    have n1 : (x == 128) = false := by simp; omega
    have n2 : (x == 255) = false := by simp; omega
    by_cases q2 : x < 128
    · have HE : Hid (O = if (n : Int) < p + 1 + x then .inl (31, p) else .inr (x, (p + 1))) := by
        show _ = _
        have h1 := lenS_lo (by have := HX.out.2.2.1; omega) HXx.out q2
        rw [HX.out.2.2.2, HX.out.2.2.1] at h1
        exact h1
      have n3 : ¬ 128 < x := by omega
      by_cases q3 : (n : Int) - ((p : Int) + 1) < x
      · go_enter Tryz.func68, Tryz.ntmps68
        go_wp2
        (try simp only [Exit.inBlock, Exit.then]); refine bodyPost_ret (results_tmp4 rfl _ _ _) rfl ?_
        rw [HE.out, if_pos (by omega)]
        exact ⟨rfl, rfl⟩
      · go_enter Tryz.func68, Tryz.ntmps68
        go_wp2
        (try simp only [Exit.inBlock, Exit.then]); refine bodyPost_ret (results_tmp4 rfl _ _ _) rfl ?_
        rw [HE.out, if_neg (by omega)]
        exact ⟨rfl, rfl⟩
    · obtain ⟨k, hk⟩ : ∃ k : Nat, x - 128 = k := ⟨(x - 128).toNat, by omega⟩
      have k1 : 0 < k := by omega
      have k2 : k ≤ 127 := by omega
      have k3 : 128 < x := by omega
      have k4 : x < 255 := by omega
      obtain ⟨p1, hp1⟩ : ∃ p1, p + 1 = p1 := ⟨_, rfl⟩
      have p1I : (p : Int) + 1 = (p1 : Int) := by omega
      obtain ⟨F, hF⟩ : ∃ F, fold8 M p1 k = F := ⟨_, rfl⟩
      obtain ⟨D, hD⟩ : ∃ D : Bool, decide (M.getD p1 0 ≠ 0 ∧ 128 ≤ F) = D := ⟨_, rfl⟩
      have HE : Hid (O = if n < p1 + k then .inl (2, n) else if D = false then .inl (31, p) else if (n : Int) - (p1 + k : Nat) < F then .inl (31, p) else .inr (F, (p1 + k))) := by
        show _ = _
        have h1 := lenS_hi (F := F) (D := D) (by have := HX.out.2.2.1; omega) HXx.out k3 k4 hk (by rw [hp1]; exact hF) (by rw [hp1]; exact hD)
        rw [HX.out.2.2.2, HX.out.2.2.1, hp1] at h1
        exact h1
      have hFb := fold8_bd HX.out.2.1 p1 k
      rw [hF] at hFb
      obtain ⟨F0, F1⟩ := hFb
      have HFD : Hid (fold8 M p1 k = F ∧ decide (M.getD p1 0 ≠ 0 ∧ 128 ≤ F) = D ∧ p + 1 = p1) := ⟨hF, hD, hp1⟩
      clear hF hD
      obtain ⟨p2, hp2⟩ : ∃ p2, p1 + k = p2 := ⟨_, rfl⟩
      have p2I : (p1 : Int) + (k : Int) = (p2 : Int) := by omega
      have HP2 : Hid (p1 + k = p2) := hp2
      by_cases q3 : n < p2
      · have q3I : (n : Int) < (p2 : Int) := by omega
        clear hp1 hp2
        go_enter Tryz.func68, Tryz.ntmps68
        go_wp2
        (try simp only [Exit.inBlock, Exit.then]); refine bodyPost_ret (results_tmp4 rfl _ _ _) rfl ?_
        rw [HE.out, HP2.out, if_pos q3]
        exact ⟨rfl, rfl⟩
      have q3I : ¬ (n : Int) < (p2 : Int) := by omega
      have pkI : (p : Int) + (k : Int) = (p2 : Int) - 1 := by omega
      have hp2n : (p2 : Int) ≤ 16777216 := by omega
      go_enter Tryz.func68, Tryz.ntmps68
      go_wp2_with fail
      go_loopw [8, 11] (fun nv iv wr => ∃ (m i : Nat) (t : Int), nv = .int .i64 t ∧ iv = .int .i64 i ∧ m ≤ k ∧ i = p1 + m ∧ 0 ≤ t ∧ t ≤ 16777217 ∧ fold8 M p1 m = t ∧ w = wr) (fun _ iv _ => p2 - (intOf iv).toNat)
      case atStart => exact ⟨0, p1, 0, rfl, rfl, by omega, rfl, by decide, by decide, rfl, rfl⟩
      case round =>
        obtain ⟨m, i, t, rfl, rfl, hm, him, t0, t1, hl, rfl⟩ := hrel
        have H1 : Hid (fold8 M p1 m = t ∧ i = p1 + m) := ⟨hl, him⟩
        clear hl
        by_cases hlt2 : m < k
        · have l1 : (i : Int) ≤ (p2 : Int) - 1 := by omega
          have l2 : (i : Int) < (n : Int) := by omega
          obtain ⟨y, hy⟩ : ∃ y, M.getD i 0 = y := ⟨_, rfl⟩
          have hyu := HX.out.2.1.at i
          rw [hy] at hyu
          have y0 := hyu.1
          have y1 := hyu.2
          have cy : w.cell? ⟨b, off + i, none⟩ = some (.int .u8 y) := by rw [HX.out.1 i (by have := HX.out.2.2.1; omega), hy]
          have HF : Hid (fold8 M p1 (m + 1) = min (t * 256 + y) 16777217) := by
            show _ = _
            rw [fold8_at (M := M) (x := y) p1 m (by rw [← H1.out.2]; exact hy), H1.out.1]
          clear hy hyu
          obtain ⟨t2, ht2⟩ : ∃ t2, t * 256 + y = t2 := ⟨_, rfl⟩
          have HT2 : Hid (t * 256 + y = t2) := ht2
          have t20 : 0 ≤ t2 := by omega
          have t21 : t2 ≤ 4294968000 := by omega
          clear him
          by_cases q4 : 16777216 < t2
          · go_wp2
            go_roundw
            case rel => exact ⟨m + 1, i + 1, 16777217, rfl, by go_num, by omega, by have := H1.out.2; omega, by decide, by decide, by rw [HF.out, HT2.out]; omega, trivial⟩
            case measure => simp [intOf]; omega
          · go_wp2
            go_roundw
            case rel => exact ⟨m + 1, i + 1, t2, rfl, by go_num, by omega, by have := H1.out.2; omega, t20, by omega, by rw [HF.out, HT2.out]; omega, trivial⟩
            case measure => simp [intOf]; omega
        · obtain rfl : m = k := by omega
          have l1 : ¬ (i : Int) ≤ (p2 : Int) - 1 := by omega
          obtain rfl : F = t := by rw [← HFD.out.1, H1.out.1]
          obtain ⟨z, hz⟩ : ∃ z, M.getD p1 0 = z := ⟨_, rfl⟩
          have hzu := HX.out.2.1.at p1
          rw [hz] at hzu
          have z0 := hzu.1
          have z1 := hzu.2
          have cz : w.cell? ⟨b, off + p1, none⟩ = some (.int .u8 z) := by rw [HX.out.1 p1 (by have := HX.out.2.2.1; omega), hz]
          have p1n : (p1 : Int) < (n : Int) := by omega
          have HD : Hid (decide (z ≠ 0 ∧ 128 ≤ F) = D) := by show _ = _; rw [← hz]; exact HFD.out.2.1
          have nl : ¬ n < p1 + m := by omega
          clear hz hzu him hp1 hp2
          by_cases q4 : F < 128
          · have HDf : Hid (D = false) := by show _ = _; rw [← HD.out]; simp; omega
            go_wp2
            (try simp only [Exit.inBlock, Exit.then]); refine bodyPost_ret (results_tmp4 rfl _ _ _) rfl ?_
            rw [HE.out, if_neg nl, if_pos HDf.out]
            exact ⟨rfl, rfl⟩
          by_cases q5 : z = 0
          · subst q5
            have HDf : Hid (D = false) := by show _ = _; rw [← HD.out]; simp
            go_wp2
            (try simp only [Exit.inBlock, Exit.then]); refine bodyPost_ret (results_tmp4 rfl _ _ _) rfl ?_
            rw [HE.out, if_neg nl, if_pos HDf.out]
            exact ⟨rfl, rfl⟩
          have q5b : (z == 0) = false := by simpa using q5
          have HDt : Hid (D ≠ false) := by show _ ≠ _; rw [← HD.out]; simp; omega
          by_cases q6 : (n : Int) - (p2 : Int) < F
          · go_wp2
            (try simp only [Exit.inBlock, Exit.then]); refine bodyPost_ret (results_tmp4 rfl _ _ _) rfl ?_
            rw [HE.out, if_neg nl, if_neg HDt.out, HP2.out, if_pos q6]
            exact ⟨rfl, rfl⟩
          · go_wp2
            (try simp only [Exit.inBlock, Exit.then]); refine bodyPost_ret (results_tmp4 rfl _ _ _) rfl ?_
            rw [HE.out, if_neg nl, if_neg HDt.out, HP2.out, if_neg (by omega)]
            exact ⟨rfl, rfl⟩
  · obtain rfl : p = n := by omega
    go_enter Tryz.func68, Tryz.ntmps68
    go_wp2
    (try simp only [Exit.inBlock, Exit.then]); refine bodyPost_ret (results_tmp4 rfl _ _ _) rfl ?_
    have h1 := HX.out.2.2.2
    unfold lenS at h1
    rw [if_pos (by have := HX.out.2.2.1; omega), HX.out.2.2.1] at h1
    subst h1
    exact ⟨rfl, rfl⟩
end Go.Proofs.YtillkhjihggcjaaGreatDoor
/-
  Der: the reference's Split.
-/
namespace Go.Proofs.YtillkhjihggcjaaGreatDoor
open Go.RowKit
theorem sz_of {w W : World} (hb : Below w.heap.size w W) : w.heap.size ≤ W.heap.size := hb.size
theorem ks_al {w W : World} {p : Addr} {v : Value} {o : Obj} (hp : p.block < w.heap.size) (hv : w.cell? p = some v) (h : Below w.heap.size w W) : Below w.heap.size w (W.alloc o) ∧ (W.alloc o).cell? p = some v :=
  ⟨al2' h, ((al2' h).cell hp).trans hv⟩
theorem ks_ald {w W : World} {p : Addr} {v : Value} {o : Obj} (hp : p.block < w.heap.size) (hv : w.cell? p = some v) (h : Below w.heap.size w W.drew) : Below w.heap.size w (W.alloc o).drew ∧ (W.alloc o).drew.cell? p = some v := by
  have h1 : Below w.heap.size w W := h.trans ⟨rfl, rfl, rfl, Nat.le_refl _, fun _ _ => rfl⟩
  have h2 : Below w.heap.size w (W.alloc o).drew := (al2' h1).drew
  exact ⟨h2, (h2.cell hp).trans hv⟩
theorem ks_below {w W W' : World} {p : Addr} {v : Value} (hp : p.block < w.heap.size) (hv : w.cell? p = some v) (h : Below w.heap.size w W) (h' : Below W.heap.size W W') : Below w.heap.size w W' ∧ W'.cell? p = some v :=
  ⟨below_via h h' (Nat.le_refl _), ((below_via h h' (Nat.le_refl _)).cell hp).trans hv⟩
theorem ks_tr {w W W' : World} {p : Addr} {v : Value} (hp : p.block < w.heap.size) (hv : w.cell? p = some v) (h : Below w.heap.size w W) (h' : Below w.heap.size W W') : Below w.heap.size w W' ∧ W'.cell? p = some v :=
  ⟨h.trans h', ((h.trans h').cell hp).trans hv⟩
/-- The slice and its rows, with the values by name. -/
def TY (B : Nat) (w : World) (v : Value) (k : Nat) (Y : List Tc) : Prop := MRow 5 24 B w v k (tlvCells Y) ∧ ∀ y ∈ Y, Rw .u8 5 B w y.2.1 y.1.d ∧ Rw .u8 5 B w y.2.2 y.1.r
theorem TY.below {B : Nat} {w w' : World} {v : Value} {k : Nat} {Y : List Tc} (h : TY B w v k Y) (hb : Below w.heap.size w w') : TY B w' v k Y :=
  ⟨h.1.below hb, fun y hy => ⟨(h.2 y hy).1.below hb, (h.2 y hy).2.below hb⟩⟩
theorem TY.alloc {B : Nat} {w : World} {v : Value} {k : Nat} {Y : List Tc} (h : TY B w v k Y) (o : Obj) : TY B (w.alloc o) v k Y := h.below (al1 o)
theorem TY.drew {B : Nat} {w : World} {v : Value} {k : Nat} {Y : List Tc} (h : TY B w v k Y) : TY B w.drew v k Y := h.below ⟨rfl, rfl, rfl, Nat.le_refl _, fun _ _ => rfl⟩
def SplitOutR (n : Nat) (B : Nat) (w : World) (e : Ending) : Sp → Prop
  | .inl (er, a) => e = .returned (.tuple #[.slice none 0 0, .int .i64 er, .int .i64 a])
  | .inr L => ∃ v, e = .returned (.tuple #[v, .int .i64 0, .int .i64 n]) ∧ TlvR B w v L
set_option maxRecDepth 20000 in
set_option maxHeartbeats 4000000 in
theorem RSplit_ne {w : World} (b off n c : Nat) (M : List Int) (hM : Rd .u8 w b off M) (uM : U8s M) (hMl : M.length = n) (hn : n ≤ 16777216) (hnc : n ≤ c) (hb : b < w.heap.size) :
    Calls Tryz.prog 41 #[.slice (some ⟨b, off, none⟩) n c] w fun e w' => SplitOutR n w.heap.size w' e (splitS M) ∧ Below w.heap.size w w' := by
  obtain ⟨O, hO⟩ : ∃ O, spl M 0 [] = O := ⟨_, rfl⟩
  have HO : Hid (spl M 0 [] = O ∧ splitS M = O) := ⟨hO, by unfold splitS; rw [if_neg (by omega), hO]⟩
  have HX : Hid (Rd .u8 w b off M ∧ U8s M ∧ M.length = n) := ⟨hM, uM, hMl⟩
  have hnI : (n : Int) ≤ 16777216 := by omega
  rw [HO.out.2]
  clear hM uM hMl hO
  go_enter Tryz.func41, Tryz.ntmps41
  go_wp2_with fail
  go_loopw [5, 6] (fun lv pv wr => ∃ (p : Nat) (L : List El) (v : Value), v = lv ∧ pv = .int .i64 p ∧ Below w.heap.size w wr ∧ TlvR w.heap.size wr v L ∧ spl M p L = O ∧ L.length ≤ 65536 ∧ p ≤ n) (fun _ pv _ => n - (intOf pv).toNat)
  case atStart => exact ⟨0, [], _, rfl, rfl, Below.refl _ _, TlvR.nil _ _, HO.out.1, by simp, by omega⟩
  case round =>
    obtain ⟨p, L, v, rfl, rfl, hbl, ⟨Y, hYL, hm, hrows⟩, hO, hL, hp⟩ := hrel
    have hYl : Y.length = L.length := by rw [← hYL, List.length_map]
    obtain ⟨al, cl, hv⟩ := hm.ne
    obtain ⟨k, hk⟩ : ∃ k, Y.length = k := ⟨_, rfl⟩
    rw [hk] at hv hm
    subst hv
    have hkL : k ≤ 65536 := by omega
    have H2 : Hid (Below w.heap.size w wr ∧ Y.map (·.1) = L ∧ MRow 5 24 w.heap.size wr (.slice al k cl) k (tlvCells Y) ∧ (∀ y ∈ Y, Rw .u8 5 w.heap.size wr y.2.1 y.1.d ∧ Rw .u8 5 w.heap.size wr y.2.2 y.1.r) ∧ spl M p L = O ∧ Y.length = k ∧ L.length = k) := ⟨hbl, hYL, hm, hrows, hO, hk, by omega⟩
    clear hYL hm hrows hO hk hYl hL
    by_cases hlt : p < n
    · have l1 : (p : Int) < (n : Int) := by omega
      by_cases hmany : k = 65536
      · subst hmany
        go_wp2
        go_ret3
        have h1 := H2.out.2.2.2.2.1
        rw [spl_many (by have := HX.out.2.2; omega) (by have := H2.out.2.2.2.2.2; omega)] at h1
        subst h1
        exact ⟨rfl, H2.out.1⟩
      have hmb : ¬ (65536 : Int) ≤ (k : Int) := by omega
      go_wp2_with fail
      refine (Rtag_any b off n c p M (below_rd H2.out.1 hb HX.out.1) HX.out.2.1 HX.out.2.2 hn hlt).mono ?_
      obtain ⟨T, hT⟩ : ∃ T, tagS M p = T := ⟨_, rfl⟩
      have HT : Hid (tagS M p = T) := hT
      rw [hT]
      clear hT
      intro e v2 h2
      cases T with
      | inl pq =>
        obtain ⟨er, a⟩ := pq
        obtain ⟨rfl, rfl⟩ : e = .returned (.tuple #[.int .i64 0, .int .i64 0, .int .i64 er, .int .i64 a]) ∧ wr = v2 := h2
        have hbad := tagS_bad (M := M) (p := p) (by have := HX.out.2.2; omega) HT.out
        have hne : (er != 0) = true := by simp; omega
        have HE : Hid (O = .inl (er, a)) := by
          show _ = _
          rw [← H2.out.2.2.2.2.1]; refine spl_bad (by have := HX.out.2.2; omega) (by have := H2.out.2.2.2.2.2; omega) ?_
          unfold elemS; rw [HT.out]
        clear hbad
        go_wp2
        go_ret3
        rw [HE.out]
        exact ⟨rfl, H2.out.1⟩
      | inr pq =>
        obtain ⟨t, i⟩ := pq
        obtain ⟨rfl, rfl⟩ : e = .returned (.tuple #[.int .i64 t, .int .i64 i, .int .i64 0, .int .i64 0]) ∧ wr = v2 := h2
        have hok := tagS_ok (M := M) (p := p) HX.out.2.1 (by have := HX.out.2.2; omega) HT.out
        have hiM : i ≤ n := by have := HX.out.2.2; omega
        have t0 := hok.2.2.1
        have t1 := hok.2.2.2
        have HI : Hid (p < i) := hok.1
        clear hok
        go_wp2_with fail
        refine (Rlength_any b off n c i M (below_rd H2.out.1 hb HX.out.1) HX.out.2.1 HX.out.2.2 hn hiM).mono ?_
        obtain ⟨S, hS⟩ : ∃ S, lenS M i = S := ⟨_, rfl⟩
        have HS : Hid (lenS M i = S) := hS
        rw [hS]
        clear hS
        intro e v2 h2
        cases S with
        | inl pq =>
          obtain ⟨er, a⟩ := pq
          obtain ⟨rfl, rfl⟩ : e = .returned (.tuple #[.int .i64 0, .int .i64 0, .int .i64 er, .int .i64 a]) ∧ wr = v2 := h2
          have hbad := lenS_bad (M := M) (i := i) (by have := HX.out.2.2; omega) HS.out
          have hne : (er != 0) = true := by simp; omega
          have HE : Hid (O = .inl (er, a)) := by
            show _ = _
            rw [← H2.out.2.2.2.2.1]; refine spl_bad (by have := HX.out.2.2; omega) (by have := H2.out.2.2.2.2.2; omega) ?_
            unfold elemS; rw [HT.out]; simp only []; rw [HS.out]
          clear hbad
          go_wp2
          go_ret3
          rw [HE.out]
          exact ⟨rfl, H2.out.1⟩
        | inr pq =>
          obtain ⟨lv, j⟩ := pq
          obtain ⟨rfl, rfl⟩ : e = .returned (.tuple #[.int .i64 lv, .int .i64 j, .int .i64 0, .int .i64 0]) ∧ wr = v2 := h2
          have hlo := lenS_ok HX.out.2.1 HS.out
          obtain ⟨l, rfl⟩ := Int.eq_ofNat_of_zero_le hlo.2.1
          obtain ⟨E, hE⟩ : ∃ E, j + l = E := ⟨_, rfl⟩
          have hMn := HX.out.2.2
          have HE : Hid (elemS M p = .inr (t, j, E) ∧ spl M E (L ++ [elAt M p t j E]) = O) := by
            have h1 : elemS M p = .inr (t, j, E) := by unfold elemS; rw [HT.out]; simp only []; rw [HS.out]; simp only [Int.toNat_natCast]; rw [hE]
            refine ⟨h1, ?_⟩
            rw [← H2.out.2.2.2.2.1]
            exact (spl_ok HX.out.2.1 (by have := HX.out.2.2; omega) (by have := H2.out.2.2.2.2.2; omega) h1).symm
          have hEI : (j : Int) + (l : Int) = (E : Int) := by omega
          have hpj : p < j := by have := HI.out; omega
          have hjE : j ≤ E := by omega
          have hEn : E ≤ n := by omega
          clear hlo hMn
          obtain ⟨x, hx⟩ : ∃ x, M.getD p 0 = x := ⟨_, rfl⟩
          have hu8 := HX.out.2.1.at p
          rw [hx] at hu8
          have x0 := hu8.1
          have x1 := hu8.2
          have cx : wr.cell? ⟨b, off + p, none⟩ = some (.int .u8 x) := by rw [below_rd H2.out.1 hb HX.out.1 p (by have := HX.out.2.2; omega), hx]
          obtain ⟨X1, hX1⟩ : ∃ X1, (M.drop j).take (E - j) = X1 := ⟨_, rfl⟩
          obtain ⟨X2, hX2⟩ : ∃ X2, (M.drop p).take (E - p) = X2 := ⟨_, rfl⟩
          have HEl : Hid (elAt M p t j E = ⟨x / 64, t, x / 32 % 2 == 1, X1, X2⟩) := by
            show _ = _
            unfold elAt
            rw [hx, hX1, hX2]
            congr 1
          have HQ : Hid (IntKind.i64.wrap (IntKind.u8.wrap (x.tdiv 64)) = x / 64 ∧ (IntKind.u8.wrap (x.tdiv 32)).tmod 2 = x / 32 % 2) := by
            rw [Int.tdiv_eq_ediv_of_nonneg x0, Int.tdiv_eq_ediv_of_nonneg x0, IntKind.wrap_u8, IntKind.wrap_u8, IntKind.wrap_i64]
            refine ⟨by omega, ?_⟩
            rw [Int.tmod_eq_emod_of_nonneg (by omega)]; omega
          have HL1 : Hid (X1.length = E - j ∧ X2.length = E - p ∧ E ≤ 16777216) := by
            have := HX.out.2.2
            refine ⟨?_, ?_, by omega⟩
            · rw [← hX1, List.length_take, List.length_drop]; omega
            · rw [← hX2, List.length_take, List.length_drop]; omega
          obtain ⟨ba, hba⟩ : ∃ ba : Option Addr, (if c = j then some ⟨b, off, none⟩ else some ⟨b, off + j, none⟩) = ba := ⟨_, rfl⟩
          have HC : Hid (∀ W : World, Below w.heap.size w W → Sl .u8 W (.slice ba (E - j) (c - j)) X1) := fun W hW => by
            have h0 := hW
            have := rd_slo (c := c) (Nat.lt_of_lt_of_le hb h0.size) (below_rd h0 hb HX.out.1) j E hjE (by have := HX.out.2.2; omega) (by omega)
            rw [← hba, ← hX1]; exact this
          have HC2 : Hid (∀ W : World, Below w.heap.size w W → Sl .u8 W (.slice (some ⟨b, off + p, none⟩) (E - p) (c - p)) X2) := fun W hW => by
            have h0 := hW
            have := rd_slo (c := c) (Nat.lt_of_lt_of_le hb h0.size) (below_rd h0 hb HX.out.1) p E (by omega) (by have := HX.out.2.2; omega) (by omega)
            rw [if_neg (by omega)] at this
            rw [← hX2]; exact this
          have cw : w.cell? ⟨b, off + p, none⟩ = some (.int .u8 x) := by rw [HX.out.1 p (by have := HX.out.2.2; omega), hx]
          have hT : TY w.heap.size wr (.slice al k cl) k Y := ⟨H2.out.2.2.1, H2.out.2.2.2.1⟩
          have hbw : Below w.heap.size w wr := H2.out.1
          have hjI : (j : Int) ≤ (E : Int) := by omega
          have hpE : (p : Int) ≤ (E : Int) := by omega
          have hEc : (E : Int) ≤ (c : Int) := by omega
          have hpc : ¬ c = p := by omega
          have hwE : IntKind.i64.wrap (E : Int) = (E : Int) := by rw [IntKind.wrap_i64]; omega
          have hpE2 : p ≤ E := by omega
          have x10 : x / 64 ≤ 3 := by omega
          clear hu8 hbl hX1 hX2
          go_upto_region 14 with (fail)
          go_region_held3 (fun W => Below w.heap.size w W ∧ W.cell? ⟨b, off + p, none⟩ = some (.int .u8 x)) (first | exact ⟨hbw.drew, cx⟩ | exact ks_ald hb cw (And.left (by assumption)) | exact ks_al hb cw (And.left (by assumption)) | exact ks_below hb cw (And.left (by assumption)) (by assumption) | exact ks_tr hb cw (And.left (by assumption)) (by assumption))
            (first
              | (refine step_ap0 (by rfl) (.tmp 63) (.tmp 69) 22 22 (by rfl) .u8 5 1 Tryz.und8 Tryz.info8 (by decide) w.heap.size _ (by rfl) _ X1 (by rfl) (src_sl Tryz.und8 (HC.out _ (And.left (by assumption)))) (by have := HL1.out; omega) (sz_of (And.left (by assumption))) ?_; intro v5 w5 hr5 hb5; obtain ⟨a5, c5, hv5⟩ := hr5.ne; rw [HL1.out.1] at hv5; subst hv5; have hT5 := (by first | exact (hT.alloc _).drew.below hb5 | exact ((hT.alloc _).alloc _).drew.below hb5 : TY w.heap.size w5 (.slice al k cl) k Y))
              | (refine step_ap0 (by rfl) (.tmp 71) (.tmp 77) 22 22 (by rfl) .u8 5 1 Tryz.und8 Tryz.info8 (by decide) w.heap.size _ (by rfl) _ X2 (by rfl) (src_sl Tryz.und8 (HC2.out _ (And.left (by assumption)))) (by have := HL1.out; omega) (sz_of (And.left (by assumption))) ?_; intro v7 w7 hr7 hb7; obtain ⟨a7, c7, hv7⟩ := hr7.ne; rw [HL1.out.2.1] at hv7; subst hv7; have hT7 := (by first | exact (hT5.alloc _).below hb7 | exact hT5.below hb7 : TY w.heap.size w7 (.slice al k cl) k Y); have hr57 := (by first | exact (hr5.alloc _).below hb7 | exact hr5.below hb7 : Rw .u8 5 w.heap.size w7 (.slice a5 (E - j) c5) X1))
              | (refine step_apm (by rfl) (.tmp 48) (.tmp 80) 66 66 (by rfl) 5 zeroT rfl 24 72 Tryz.undT Tryz.infoT (by decide) w.heap.size _ k _ (by rfl) (hT7.alloc _).1 _ 1 [.int .i64 (IntKind.i64.wrap (IntKind.u8.wrap (x.tdiv 64))), .int .i64 t, .bool ((IntKind.u8.wrap (x.tdiv 32)).tmod 2 == 1), .slice a5 (E - j) c5, .slice a7 (E - p) c7] (by rfl) (src_m (T := 24) Tryz.undT 5 (blk_nw (by simp) rfl) rfl (tlv_one _ _ _ _ _ _ _ _ _)) (by omega) (sz_of (And.left (by assumption))) ?_; intro v9 w9 hr9 hg9; have hb9 := hg9.below (hT7.alloc _).1 (sz_of (And.left (by assumption)))))
          all_goals
            have hbw9 : Below w.heap.size w w9 := And.left (by assumption)
            have H9 : Hid (Below w.heap.size w w9 ∧ TlvR w.heap.size w9 v9 (L ++ [elAt M p t j E])) := by
              refine ⟨hbw9, Y ++ [(elAt M p t j E, .slice a5 (E - j) c5, .slice a7 (E - p) c7)], ?_, ?_, ?_⟩
              · rw [List.map_append, H2.out.2.1]; rfl
              · rw [tlvCells_snoc, List.length_append, H2.out.2.2.2.2.2.1, HEl.out]
                rw [HQ.out.1, HQ.out.2] at hr9
                exact hr9
              · intro y hy
                rcases List.mem_append.1 hy with hy | hy
                · exact ⟨((hT7.2 y hy).1.alloc _).mgrew hg9, ((hT7.2 y hy).2.alloc _).mgrew hg9⟩
                · rw [List.mem_singleton] at hy
                  subst hy
                  rw [HEl.out]
                  exact ⟨(hr57.alloc _).mgrew hg9, (hr7.alloc _).mgrew hg9⟩
            clear hbw9 hr9 hg9 hb9 hT7 hr57 hr7 hT5 hr5 hb5 hb7 hT
            go_wp2
            go_roundw
            case rel => exact ⟨E, _, _, rfl, rfl, H9.out.1, H9.out.2, HE.out.2, by rw [List.length_append, H2.out.2.2.2.2.2.2]; show k + 1 ≤ _; omega, hEn⟩
            case measure => simp [intOf]; omega
    · obtain rfl : p = n := by omega
      have l1 : ¬ (p : Int) < (p : Int) := by omega
      go_wp2
      go_ret3
      have h1 := H2.out.2.2.2.2.1
      rw [spl_end (by have := HX.out.2.2; omega)] at h1
      subst h1
      refine ⟨⟨_, rfl, ?_⟩, H2.out.1⟩
      have h2 := H2.out
      exact ⟨Y, h2.2.1, by rw [h2.2.2.2.2.2.1]; exact h2.2.2.1, h2.2.2.2.1⟩
end Go.Proofs.YtillkhjihggcjaaGreatDoor
/-
  Der: the reference's Split of any slice, its One; the same rows.
-/
namespace Go.Proofs.YtillkhjihggcjaaGreatDoor
open Go.RowKit
theorem Rw.upd {k : IntKind} {e : TypeId} {B : Nat} {w w' : World} {v : Value} {xs : List Int} {g : Nat} (h : Rw k e B w v xs) (hu : Upd w w' g) (hg : g < B) : Rw k e B w' v xs := by
  rcases h with h | h
  · exact .inl (h.upd hu hg)
  · exact .inr h
set_option maxRecDepth 20000 in
set_option maxHeartbeats 4000000 in
theorem RSplit_any {w : World} (v : Value) (M : List Int) (hv : Sl .u8 w v M) (uM : U8s M) (hl : M.length ≤ 9223372036854775807) :
    Calls Tryz.prog 41 #[v] w fun e w' => SplitOutR M.length w.heap.size w' e (splitS M) ∧ Below w.heap.size w w' := by
  obtain ⟨a, c, rfl, hc, h⟩ := hv
  by_cases hn : M.length ≤ 16777216
  · by_cases hne : M = []
    · subst hne
      have HE : Hid (splitS [] = .inr []) := rfl
      rw [HE.out]
      simp only [List.length_nil]
      go_enter Tryz.func41, Tryz.ntmps41
      go_wp2_with fail
      refine wp_loop_rounds 1 ?_
      rw [rounds_succ]
      go_wp2
      go_ret3
      exact ⟨⟨_, rfl, TlvR.nil _ _⟩, Below.refl _ _⟩
    · rcases h with h | ⟨b, off, rfl, hb, hr⟩
      · exact absurd h hne
      · exact RSplit_ne b off M.length c M hr uM rfl hn hc hb
  · have HE : Hid (splitS M = .inl (3, 0)) := by show _ = _; unfold splitS; rw [if_pos (by omega)]
    have hnI : (16777216 : Int) < (M.length : Int) := by omega
    rw [HE.out]
    obtain ⟨n, hn⟩ : ∃ n, M.length = n := ⟨_, rfl⟩
    rw [hn] at hnI ⊢
    clear h
    go_enter Tryz.func41, Tryz.ntmps41
    go_wp2
    go_ret3
    exact ⟨rfl, Below.refl _ _⟩
def OneOutR (B : Nat) (w : World) (e : Ending) (o : El × Int) : Prop :=
  ∃ a1 n1 c1 a2 n2 c2, e = .returned (.tuple #[.agg #[.int .i64 o.1.cl, .int .i64 o.1.tg, .bool o.1.co, .slice a1 n1 c1, .slice a2 n2 c2], .int .i64 o.2]) ∧ Rw .u8 5 B w (.slice a1 n1 c1) o.1.d ∧ Rw .u8 5 B w (.slice a2 n2 c2) o.1.r
theorem OneOutR.no (B : Nat) (w : World) (er : Int) (e : Ending) (h : e = .returned (.tuple #[nilT, .int .i64 er])) : OneOutR B w e (noEl, er) :=
  ⟨none, 0, 0, none, 0, 0, h, .inl (Row.nil _ _ _ _), .inl (Row.nil _ _ _ _)⟩
set_option maxRecDepth 20000 in
set_option maxHeartbeats 4000000 in
theorem ROne_any {w : World} (v : Value) (M : List Int) (hv : Sl .u8 w v M) (uM : U8s M) (hl : M.length ≤ 9223372036854775807) :
    Calls Tryz.prog 18 #[v] w fun e w' => OneOutR w.heap.size w' e (oneS (splitS M)) ∧ Below w.heap.size w w' := by
  have HX : Hid (Sl .u8 w v M ∧ U8s M ∧ M.length ≤ 9223372036854775807) := ⟨hv, uM, hl⟩
  clear hv uM hl
  obtain ⟨S, hS⟩ : ∃ S, splitS M = S := ⟨_, rfl⟩
  have HS : Hid (splitS M = S) := hS
  rw [hS]
  clear hS
  go_enter Tryz.func18, Tryz.ntmps18
  go_wp2_with fail
  refine (RSplit_any v M (sl_alloc HX.out.1 _) HX.out.2.1 HX.out.2.2).mono ?_
  rintro e w1 ⟨ha, hb⟩
  rw [HS.out] at ha
  have hB1 : Blk 24 w1 w.heap.size [.int .i64 0, .int .i64 0, .bool false, .slice none 0 0, .slice none 0 0] := below_blk hb (by simp) (Blk.new _ w _)
  have H1 : Hid (Below w.heap.size w w1 ∧ Blk 24 w1 w.heap.size [.int .i64 0, .int .i64 0, .bool false, .slice none 0 0, .slice none 0 0]) := ⟨below_via (al1 _) hb (Nat.le_refl _), hB1⟩
  have d0 : w1.cell? ⟨w.heap.size, 0, none⟩ = some (.int .i64 0) := hB1.cell 0
  have d1 : w1.cell? ⟨w.heap.size, 1, none⟩ = some (.int .i64 0) := hB1.cell 1
  have d2 : w1.cell? ⟨w.heap.size, 2, none⟩ = some (.bool false) := hB1.cell 2
  have d3 : w1.cell? ⟨w.heap.size, 3, none⟩ = some (.slice none 0 0) := hB1.cell 3
  have d4 : w1.cell? ⟨w.heap.size, 4, none⟩ = some (.slice none 0 0) := hB1.cell 4
  have f0 := hB1.frozen 0
  have f1 := hB1.frozen 1
  have f2 := hB1.frozen 2
  have f3 := hB1.frozen 3
  have f4 := hB1.frozen 4
  have hs1 : w.heap.size < w1.heap.size := hB1.lt
  clear hb hB1
  have hB : Hid (Blk 24 (((((w1.setCell ⟨w.heap.size, 0, none⟩ (.int .i64 0)).setCell ⟨w.heap.size, 1, none⟩ (.int .i64 0)).setCell ⟨w.heap.size, 2, none⟩ (.bool false)).setCell ⟨w.heap.size, 3, none⟩ (.slice none 0 0)).setCell ⟨w.heap.size, 4, none⟩ (.slice none 0 0)) w.heap.size [.int .i64 0, .int .i64 0, .bool false, .slice none 0 0, .slice none 0 0]) :=
    ((((H1.out.2.set 0 (.int .i64 0)).set 1 (.int .i64 0)).set 2 (.bool false)).set 3 (.slice none 0 0)).set 4 (.slice none 0 0)
  have hU : Hid (Upd w1 (((((w1.setCell ⟨w.heap.size, 0, none⟩ (.int .i64 0)).setCell ⟨w.heap.size, 1, none⟩ (.int .i64 0)).setCell ⟨w.heap.size, 2, none⟩ (.bool false)).setCell ⟨w.heap.size, 3, none⟩ (.slice none 0 0)).setCell ⟨w.heap.size, 4, none⟩ (.slice none 0 0)) w.heap.size) :=
    ((((Upd.set w1 w.heap.size 0 (.int .i64 0)).trans (Upd.set _ _ 1 (.int .i64 0))).trans (Upd.set _ _ 2 (.bool false))).trans (Upd.set _ _ 3 (.slice none 0 0))).trans (Upd.set _ _ 4 (.slice none 0 0))
  cases S with
  | inl pq =>
    obtain ⟨er, a⟩ := pq
    have hne0 := splitS_err HX.out.2.1 HS.out
    have hne : (er != 0) = true := by simpa using hne0
    obtain rfl : e = .returned (.tuple #[.slice none 0 0, .int .i64 er, .int .i64 a]) := ha
    go_wp2
    refine bodyPost_ret (results_blk2 rfl rfl hB.out Tryz.underlying24 rfl Tryz.sizeT rfl) rfl ⟨?_, hU.out.below H1.out.1 H1.out.1.size (Nat.le_refl _)⟩
    exact OneOutR.no _ _ _ _ rfl
  | inr L =>
    obtain ⟨v2, rfl, ht⟩ : ∃ v, e = .returned (.tuple #[v, .int .i64 0, .int .i64 M.length]) ∧ TlvR (w.alloc (.cells #[.int .i64 0, .int .i64 0, .bool false, .slice none 0 0, .slice none 0 0] 24)).heap.size w1 v L := ha
    obtain ⟨Y, hYL, hm, hrows⟩ := ht
    obtain ⟨al, cl, hv2⟩ := hm.ne
    obtain ⟨k, hk⟩ : ∃ k, Y.length = k := ⟨_, rfl⟩
    rw [hk] at hv2
    subst hv2
    have hlen := hYL
    cases Y with
    | nil =>
      subst hYL
      have hk0 : 0 = k := hk
      subst hk0
      go_wp2
      refine bodyPost_ret (results_blk2 rfl rfl hB.out Tryz.underlying24 rfl Tryz.sizeT rfl) rfl ⟨?_, hU.out.below H1.out.1 H1.out.1.size (Nat.le_refl _)⟩
      exact OneOutR.no _ _ _ _ rfl
    | cons y Y =>
      cases Y with
      | cons y2 Y =>
        subst hYL
        have hk1 : (1 : Int) < (k : Int) := by simp at hk; omega
        have hk2 : ((k : Int) == 0) = false := by simp; omega
        clear hk hm hrows hlen
        go_wp2
        refine bodyPost_ret (results_blk2 rfl rfl hB.out Tryz.underlying24 rfl Tryz.sizeT rfl) rfl ⟨?_, hU.out.below H1.out.1 H1.out.1.size (Nat.le_refl _)⟩
        exact OneOutR.no _ _ _ _ rfl
      | nil =>
        subst hYL
        have hk1 : 1 = k := hk
        subst hk1
        clear hk hlen
        obtain ⟨⟨xc, xt, xo, xd, xr⟩, yd, yr⟩ := y
        have hr1 := hrows _ (List.mem_singleton_self _)
        obtain ⟨a1, c1, hd⟩ := hr1.1.ne
        obtain ⟨a2, c2, hr⟩ := hr1.2.ne
        obtain ⟨n1, hn1⟩ : ∃ n1, xd.length = n1 := ⟨_, rfl⟩
        obtain ⟨n2, hn2⟩ : ∃ n2, xr.length = n2 := ⟨_, rfl⟩
        simp only [] at hd hr
        rw [hn1] at hd
        rw [hn2] at hr
        subst hd
        subst hr
        clear hn1 hn2
        obtain ⟨bl, cl2, hv, hc2, hbl, hbv, hcells⟩ := hm.at (by simp)
        simp only [Value.slice.injEq] at hv
        obtain ⟨rfl, h11, rfl⟩ := hv
        clear h11
        have e0 : w1.cell? ⟨bl, 0, none⟩ = some (.int .i64 xc) := hcells 0 (by simp)
        have e1 : w1.cell? ⟨bl, 1, none⟩ = some (.int .i64 xt) := hcells 1 (by simp)
        have e2 : w1.cell? ⟨bl, 2, none⟩ = some (.bool xo) := hcells 2 (by simp)
        have e3 : w1.cell? ⟨bl, 3, none⟩ = some (.slice a1 n1 c1) := hcells 3 (by simp)
        have e4 : w1.cell? ⟨bl, 4, none⟩ = some (.slice a2 n2 c2) := hcells 4 (by simp)
        have H2 : Hid (Rw .u8 5 (w.heap.size + 1) w1 (.slice a1 n1 c1) xd ∧ Rw .u8 5 (w.heap.size + 1) w1 (.slice a2 n2 c2) xr) := ⟨by simpa using hr1.1, by simpa using hr1.2⟩
        clear hcells hr1 hm hrows hbl hbv hc2 hs1
        go_wp2
        have hB' := ((((H1.out.2.set 0 (.int .i64 xc)).set 1 (.int .i64 xt)).set 2 (.bool xo)).set 3 (.slice a1 n1 c1)).set 4 (.slice a2 n2 c2)
        have hU' := ((((Upd.set w1 w.heap.size 0 (.int .i64 xc)).trans (Upd.set _ _ 1 (.int .i64 xt))).trans (Upd.set _ _ 2 (.bool xo))).trans (Upd.set _ _ 3 (.slice a1 n1 c1))).trans (Upd.set _ _ 4 (.slice a2 n2 c2))
        refine bodyPost_ret (results_blk2 rfl rfl hB' Tryz.underlying24 rfl Tryz.sizeT rfl) rfl ⟨⟨a1, n1, c1, a2, n2, c2, rfl, ?_, ?_⟩, hU'.below H1.out.1 H1.out.1.size (Nat.le_refl _)⟩
        · exact (H2.out.1.upd hU' (Nat.lt_succ_self _)).mono (Nat.le_succ _)
        · exact (H2.out.2.upd hU' (Nat.lt_succ_self _)).mono (Nat.le_succ _)
end Go.Proofs.YtillkhjihggcjaaGreatDoor
/-
  Der: the reference's Int.
-/
namespace Go.Proofs.YtillkhjihggcjaaGreatDoor
open Go.RowKit
end Go.Proofs.YtillkhjihggcjaaGreatDoor
/-
  Der: the bytes of a small number.
-/
namespace Go.Proofs.YtillkhjihggcjaaGreatDoor
open Go.RowKit
end Go.Proofs.YtillkhjihggcjaaGreatDoor
/-
  Der: the reference's bytes of a small number.
-/
namespace Go.Proofs.YtillkhjihggcjaaGreatDoor
open Go.RowKit
end Go.Proofs.YtillkhjihggcjaaGreatDoor
