/-
  Der: the law DerSplits.
-/
import Derived.Test.YtndcpjnfdgojkaaDoorE52
import Derived.Test.YtndcpjnfdgojkaaDoorE13
namespace Go.Proofs.YtndcpjnfdgojkaaDoor
open Go.RowKit
def spE : Sp → Int
  | .bad e _ => e
  | .ok _ => 0
def spA (n : Nat) : Sp → Nat
  | .bad _ a => a
  | .ok _ => n
def spL : Sp → List El
  | .bad _ _ => []
  | .ok L => L
theorem SplitAns.uni {M : List Int} {B : Nat} {w : World} {e : Ending} (h : SplitAns M B w e) : ∃ v, e = .returned (.tuple #[v, .int .i64 (spE (splitS M)), .int .i64 (spA M.length (splitS M))]) ∧ Tlvs B w v (spL (splitS M)) := by
  unfold SplitAns at h
  cases hS : splitS M with
  | bad er a => rw [hS] at h; exact ⟨_, h, Tlvs.nil _ _⟩
  | ok L => rw [hS] at h; exact h
theorem SplitOutR.uni {n : Nat} {S : Sp} {B : Nat} {w : World} {e : Ending} (h : SplitOutR n B w e S) : ∃ v, e = .returned (.tuple #[v, .int .i64 (spE S), .int .i64 (spA n S)]) ∧ TlvR B w v (spL S) := by
  cases S with
  | bad er a => exact ⟨_, h, TlvR.nil _ _⟩
  | ok L => exact h
theorem spl_small {M : List Int} (hM : U8s M) : ∀ f p L, M.length - p = f → L.length ≤ 65536 → (∀ y ∈ L, y.d.length ≤ M.length ∧ y.r.length ≤ M.length) → ∀ L', spl M p L = .ok L' → L'.length ≤ 65536 ∧ ∀ y ∈ L', y.d.length ≤ M.length ∧ y.r.length ≤ M.length := by
  intro f
  induction f using Nat.strongRecOn with
  | _ f ih =>
    intro p L hf hL hy L' h
    by_cases hp : p < M.length
    · by_cases hL2 : L.length < 65536
      · cases hE : elemS M p with
        | bad e' a' => rw [spl_bad hp hL2 hE] at h; cases h
        | ok t j E =>
          have := elemS_ok hM hp hE
          rw [spl_ok hM hp hL2 hE] at h
          refine ih (M.length - E) (by omega) E _ rfl (by rw [List.length_append]; exact hL2) ?_ L' h
          intro y hy'
          rcases List.mem_append.1 hy' with hy' | hy'
          · exact hy y hy'
          · rw [List.mem_singleton] at hy'
            subst hy'
            refine ⟨?_, ?_⟩
            · show ((M.drop j).take (E - j)).length ≤ _; rw [List.length_take, List.length_drop]; omega
            · show ((M.drop p).take (E - p)).length ≤ _; rw [List.length_take, List.length_drop]; omega
      · rw [spl_many hp (by omega)] at h; cases h
    · rw [spl_end (by omega)] at h; cases h; exact ⟨hL, hy⟩
theorem splitS_small {M : List Int} (hM : U8s M) : (spL (splitS M)).length ≤ 65536 ∧ ∀ y ∈ spL (splitS M), y.d.length ≤ M.length ∧ y.r.length ≤ M.length := by
  cases hS : splitS M with
  | bad e a => exact ⟨by simp [spL], by simp [spL]⟩
  | ok L =>
    unfold splitS at hS
    split at hS
    · cases hS
    · exact spl_small hM _ 0 [] rfl (by simp) (by simp) L hS
theorem oneS_small {M : List Int} (hM : U8s M) : (oneS (splitS M)).1.d.length ≤ M.length ∧ (oneS (splitS M)).1.r.length ≤ M.length := by
  have h := (splitS_small hM).2
  cases hS : splitS M with
  | bad e a => simp [oneS, noEl]
  | ok L =>
    rw [hS] at h
    cases L with
    | nil => simp [oneS, noEl]
    | cons x L =>
      cases L with
      | nil => exact h x (by simp [spL])
      | cons y L => simp [oneS, noEl]
/-- A row of one element, just made. -/
theorem tlvS_one {w : World} {b : Nat} (x : El) {d r : Value} {cs : List Value} (hcs : cs = cell5 (x, d, r)) (hA : Blk 32 w b cs) (hd : Sl .u8 w d x.d) (hr : Sl .u8 w r x.r) : TlvS w (.slice (some ⟨b, 0, none⟩) 1 1) [x] := by
  subst hcs
  refine ⟨_, _, [(x, d, r)], rfl, Nat.le_refl _, rfl, .inr ⟨b, 0, rfl, hA.lt, fun i hi => ?_⟩, ?_⟩
  · rw [Nat.zero_add, hA.cell i]; simp [tlvCells]
  · intro y hy
    rw [List.mem_singleton] at hy
    subst hy
    exact ⟨hd, hr⟩
set_option maxRecDepth 20000 in
set_option maxHeartbeats 4000000 in
theorem DerSplits_any {w : World} (a : Option Addr) (n c : Nat) (X : List Int) (hX : Sl .u8 w (.slice a n c) X) (uX : U8s X) (lX : X.length = n) (hn0 : n ≤ 9223372036854775807) (hT : Tab w) :
    Calls Tryd.prog 3 #[.slice a n c] w fun e w' => e = .returned (.bool true) ∧ Below w.heap.size w w' := by
  by_cases hn : n ≤ 16384
  · have HX : Hid (Sl .u8 w (.slice a n c) X ∧ U8s X ∧ X.length = n ∧ Tab w ∧ X.length ≤ 16384) := ⟨hX, uX, lX, hT, by omega⟩
    have hnI : (n : Int) ≤ 16384 := by omega
    clear hX uX lX hT
    obtain ⟨S, hS⟩ : ∃ S, splitS X = S := ⟨_, rfl⟩
    obtain ⟨er, her⟩ : ∃ er, spE S = er := ⟨_, rfl⟩
    obtain ⟨pl, hpl⟩ : ∃ pl, spA X.length S = pl := ⟨_, rfl⟩
    obtain ⟨L, hL⟩ : ∃ L, spL S = L := ⟨_, rfl⟩
    obtain ⟨⟨xcl, xtg, xco, xd, xr⟩, oe, hO⟩ : ∃ x e, oneS S = (x, e) := ⟨_, _, rfl⟩
    have hsm := splitS_small HX.out.2.1
    rw [hS, hL] at hsm
    have hsm1 := oneS_small HX.out.2.1
    rw [hS, hO] at hsm1
    have HS : Hid (splitS X = S ∧ spE S = er ∧ spA X.length S = pl ∧ spL S = L ∧ oneS S = (⟨xcl, xtg, xco, xd, xr⟩, oe) ∧ (L.length ≤ 65536 ∧ ∀ y ∈ L, y.d.length ≤ X.length ∧ y.r.length ≤ X.length) ∧ xd.length ≤ X.length ∧ xr.length ≤ X.length) := ⟨hS, her, hpl, hL, hO, hsm, hsm1⟩
    clear hS her hpl hL hO hsm hsm1
    go_enter Tryd.func3, Tryd.ntmps3
    go_wp2_with fail
    refine (Lent8_any X _ w HX.out.1 (by have := HX.out.2.2.2.2; omega)).mono ?_
    rintro e w1 ⟨v1, rfl, hl1, hb1⟩
    obtain ⟨a1, n1, c1, hv1⟩ : ∃ a n c, v1 = .slice a n c := by obtain ⟨b, S, h, _⟩ := hl1; exact ⟨_, _, _, h⟩
    subst hv1
    have H1 : Hid (LentR8 w.heap.size w1 (.slice a1 n1 c1) X ∧ Below w.heap.size w w1) := ⟨hl1, hb1⟩
    clear hl1 hb1
    go_wp2_with fail
    refine (SplitS_any _ X H1.out.1.sl HX.out.2.1 (by have := HX.out.2.2.2.2; omega)).mono ?_
    rintro e w2 ⟨ha, hb2⟩
    obtain ⟨v2, rfl, ht2⟩ := ha.uni
    rw [HS.out.1, HS.out.2.1, HS.out.2.2.1]
    rw [HS.out.1, HS.out.2.2.2.1] at ht2
    have H2 : Hid (TlvS w2 v2 L ∧ Below w1.heap.size w1 w2) := ⟨ht2.r.s, hb2⟩
    clear ha ht2 hb2
    go_wp2_with fail
    refine (RSplit_any _ X (below_sl (below_via H1.out.2 H2.out.2 (Nat.le_refl _)) HX.out.1) HX.out.2.1 (by have := HX.out.2.2.2.2; omega)).mono ?_
    rintro e w3 ⟨ha, hb3⟩
    obtain ⟨v3, rfl, ht3⟩ := ha.uni
    rw [HS.out.1, HS.out.2.1, HS.out.2.2.1]
    rw [HS.out.1, HS.out.2.2.2.1] at ht3
    have H3 : Hid (TlvS w3 v2 L ∧ TlvS w3 v3 L ∧ Below w1.heap.size w1 w3) := ⟨H2.out.1.below hb3, ht3.s, below_via H2.out.2 hb3 (Nat.le_refl _)⟩
    clear ha ht3 hb3
    go_wp2_with fail
    refine (OneS_any _ X (below_sl H3.out.2.2 H1.out.1.sl) HX.out.2.1 (by have := HX.out.2.2.2.2; omega)).mono ?_
    rw [HS.out.1, HS.out.2.2.2.2.1]
    rintro e w4 ⟨⟨p1, q1, s1, p2, q2, s2, rfl, hd4, hr4⟩, hb4⟩
    have H4 : Hid (TlvS w4 v2 L ∧ TlvS w4 v3 L ∧ Below w1.heap.size w1 w4 ∧ Sl .u8 w4 (.slice p1 q1 s1) xd ∧ Sl .u8 w4 (.slice p2 q2 s2) xr) := ⟨H3.out.1.below hb4, H3.out.2.1.below hb4, below_via H3.out.2.2 hb4 (Nat.le_refl _), hd4.sl, hr4.sl⟩
    clear hd4 hr4 hb4
    go_upto_region 7 with (fail)
    refine wp_gen (fun W => Blk 32 W w4.heap.size [.int .i64 xcl, .int .i64 xtg, .bool xco, .slice p1 q1 s1, .slice p2 q2 s2] ∧ Below w4.heap.size w4 W) ⟨Blk.new _ w4 _, al1 _⟩ ?_
    rintro w5 ⟨hx5, hb5⟩
    have H5 : Hid (TlvS w5 v2 L ∧ TlvS w5 v3 L ∧ Below w1.heap.size w1 w5 ∧ Sl .u8 w5 (.slice p1 q1 s1) xd ∧ Sl .u8 w5 (.slice p2 q2 s2) xr ∧ Blk 32 w5 w4.heap.size [.int .i64 xcl, .int .i64 xtg, .bool xco, .slice p1 q1 s1, .slice p2 q2 s2]) := ⟨H4.out.1.below hb5, H4.out.2.1.below hb5, below_via H4.out.2.2.1 hb5 (Nat.le_refl _), below_sl hb5 H4.out.2.2.2.1, below_sl hb5 H4.out.2.2.2.2, hx5⟩
    clear hx5 hb5
    go_wp2_with fail
    refine (ROne_any _ X (below_sl (below_via H1.out.2 H5.out.2.2.1 (Nat.le_refl _)) HX.out.1) HX.out.2.1 (by have := HX.out.2.2.2.2; omega)).mono ?_
    rw [HS.out.1, HS.out.2.2.2.2.1]
    rintro e w6 ⟨⟨p3, q3, s3, p4, q4, s4, rfl, hd6, hr6⟩, hb6⟩
    have H6 : Hid (TlvS w6 v2 L ∧ TlvS w6 v3 L ∧ Below w1.heap.size w1 w6 ∧ Sl .u8 w6 (.slice p1 q1 s1) xd ∧ Sl .u8 w6 (.slice p2 q2 s2) xr ∧ Blk 32 w6 w4.heap.size [.int .i64 xcl, .int .i64 xtg, .bool xco, .slice p1 q1 s1, .slice p2 q2 s2] ∧ Sl .u8 w6 (.slice p3 q3 s3) xd ∧ Sl .u8 w6 (.slice p4 q4 s4) xr) := ⟨H5.out.1.below hb6, H5.out.2.1.below hb6, below_via H5.out.2.2.1 hb6 (Nat.le_refl _), below_sl hb6 H5.out.2.2.2.1, below_sl hb6 H5.out.2.2.2.2.1, below_blk hb6 H5.out.2.2.2.2.2.lt H5.out.2.2.2.2.2, hd6.sl, hr6.sl⟩
    clear hd6 hr6 hb6
    go_upto_region 8 with (fail)
    refine wp_gen (fun W => Blk 32 W w6.heap.size [.int .i64 xcl, .int .i64 xtg, .bool xco, .slice p3 q3 s3, .slice p4 q4 s4] ∧ Below w6.heap.size w6 W) ⟨Blk.new _ w6 _, al1 _⟩ ?_
    rintro w7 ⟨hx7, hb7⟩
    have H7 : Hid (TlvS w7 v2 L ∧ TlvS w7 v3 L ∧ Below w1.heap.size w1 w7 ∧ Sl .u8 w7 (.slice p1 q1 s1) xd ∧ Sl .u8 w7 (.slice p2 q2 s2) xr ∧ Blk 32 w7 w4.heap.size [.int .i64 xcl, .int .i64 xtg, .bool xco, .slice p1 q1 s1, .slice p2 q2 s2] ∧ Sl .u8 w7 (.slice p3 q3 s3) xd ∧ Sl .u8 w7 (.slice p4 q4 s4) xr ∧ Blk 32 w7 w6.heap.size [.int .i64 xcl, .int .i64 xtg, .bool xco, .slice p3 q3 s3, .slice p4 q4 s4]) := ⟨H6.out.1.below hb7, H6.out.2.1.below hb7, below_via H6.out.2.2.1 hb7 (Nat.le_refl _), below_sl hb7 H6.out.2.2.2.1, below_sl hb7 H6.out.2.2.2.2.1, below_blk hb7 H6.out.2.2.2.2.2.1.lt H6.out.2.2.2.2.2.1, below_sl hb7 H6.out.2.2.2.2.2.2.1, below_sl hb7 H6.out.2.2.2.2.2.2.2, hx7⟩
    clear hx7 hb7
    go_wp2_with fail
    refine (Same_any _ _ L H7.out.1 H7.out.2.1 (by have := HS.out.2.2.2.2.2.1.1; omega) (fun y hy => by have := HS.out.2.2.2.2.2.1.2 y hy; have := HX.out.2.2.2.2; omega)).mono ?_
    rintro e w8 ⟨rfl, hb8⟩
    have H8 : Hid (Below w1.heap.size w1 w8 ∧ Sl .u8 w8 (.slice p1 q1 s1) xd ∧ Sl .u8 w8 (.slice p2 q2 s2) xr ∧ Sl .u8 w8 (.slice p3 q3 s3) xd ∧ Sl .u8 w8 (.slice p4 q4 s4) xr) := ⟨below_via H7.out.2.2.1 hb8 (Nat.le_refl _), below_sl hb8 H7.out.2.2.2.1, below_sl hb8 H7.out.2.2.2.2.1, below_sl hb8 H7.out.2.2.2.2.2.2.1, below_sl hb8 H7.out.2.2.2.2.2.2.2.1⟩
    have hA := below_blk hb8 H7.out.2.2.2.2.2.1.lt H7.out.2.2.2.2.2.1
    have hC := below_blk hb8 H7.out.2.2.2.2.2.2.2.2.lt H7.out.2.2.2.2.2.2.2.2
    have d0 : w8.cell? ⟨w4.heap.size, 0, none⟩ = some (.int .i64 xcl) := hA.cell 0
    have d1 : w8.cell? ⟨w4.heap.size, 1, none⟩ = some (.int .i64 xtg) := hA.cell 1
    have d2 : w8.cell? ⟨w4.heap.size, 2, none⟩ = some (.bool xco) := hA.cell 2
    have d3 : w8.cell? ⟨w4.heap.size, 3, none⟩ = some (.slice p1 q1 s1) := hA.cell 3
    have d4 : w8.cell? ⟨w4.heap.size, 4, none⟩ = some (.slice p2 q2 s2) := hA.cell 4
    have g0 : w8.cell? ⟨w6.heap.size, 0, none⟩ = some (.int .i64 xcl) := hC.cell 0
    have g1 : w8.cell? ⟨w6.heap.size, 1, none⟩ = some (.int .i64 xtg) := hC.cell 1
    have g2 : w8.cell? ⟨w6.heap.size, 2, none⟩ = some (.bool xco) := hC.cell 2
    have g3 : w8.cell? ⟨w6.heap.size, 3, none⟩ = some (.slice p3 q3 s3) := hC.cell 3
    have g4 : w8.cell? ⟨w6.heap.size, 4, none⟩ = some (.slice p4 q4 s4) := hC.cell 4
    have hA1 := hA.lt
    have hC1 := hC.lt
    have hC2 : ¬ w6.heap.size = w8.heap.size := by omega
    clear hb8 hA hC
    go_wp2_with (first
      | (go_at_call 15; refine (num4_any _ _).mono ?_; rintro e w' ⟨rfl, rfl⟩))
    refine (Same_any _ _ [⟨xcl, xtg, xco, xd, xr⟩] (tlvS_one (b := w8.heap.size) _ rfl ((Blk.new _ w8 _).alloc _) (sl_alloc (sl_alloc H8.out.2.1 _) _) (sl_alloc (sl_alloc H8.out.2.2.1 _) _)) (tlvS_one (b := w8.heap.size + 1) _ rfl (blk_nw (by simp) rfl) (sl_alloc (sl_alloc H8.out.2.2.2.1 _) _) (sl_alloc (sl_alloc H8.out.2.2.2.2 _) _)) (by simp) (fun y hy => by rw [List.mem_singleton] at hy; subst hy; have := HS.out.2.2.2.2.2.2; have := HX.out.2.2.2.2; exact ⟨by show xd.length ≤ _; omega, by show xr.length ≤ _; omega⟩)).mono ?_
    rintro e w9 ⟨rfl, hb9⟩
    have H9 : Hid (Below w1.heap.size w1 w9) := below_via (below_via H8.out.1 (al2' (al1 _)) (Nat.le_refl _)) hb9 (Nat.le_refl _)
    clear hb9 d0 d1 d2 d3 d4 g0 g1 g2 g3 g4
    go_wp2_with (first
      | (go_at_call 15; refine (num4_any _ _).mono ?_; rintro e w' ⟨rfl, rfl⟩))
    refine (Kept8_any _ _ X (H1.out.1.below H9.out) (below_sl (below_via H1.out.2 H9.out (Nat.le_refl _)) HX.out.1) (by have := HX.out.2.2.2.2; omega)).mono ?_
    rintro e w10 ⟨rfl, hb10⟩
    have H10 : Hid (Below w.heap.size w w10) := below_via (below_via H1.out.2 H9.out (Nat.le_refl _)) hb10 (Nat.le_refl _)
    clear hb10
    go_wp2_with (go_at_call 8; refine (live_any (HX.out.2.2.2.1.below H10.out)).mono ?_; rintro e w11 ⟨rfl, hb11⟩)
    go_ret
    exact ⟨rfl, below_via H10.out hb11 (Nat.le_refl _)⟩
  · have HX : Hid (Tab w) := hT
    have hnI : (16384 : Int) < (n : Int) := by omega
    clear hX uX lX hT
    go_enter Tryd.func3, Tryd.ntmps3
    go_wp2_with (go_at_call 8; refine (live_any HX.out).mono ?_; rintro e w8 ⟨rfl, hb8⟩)
    go_ret
    exact ⟨rfl, hb8⟩
end Go.Proofs.YtndcpjnfdgojkaaDoor
