/-
  Der: One.
-/
import Derived.Test.YtillkhjihggcjaaGreatDoorK13
namespace Go.Proofs.YtillkhjihggcjaaGreatDoor
open Go.RowKit
def noEl : El := ⟨0, 0, false, [], []⟩
/-- What One tells, of what Split tells. -/
def oneS : Sp → El × Int
  | .inl (e, _) => (noEl, e)
  | .inr [] => (noEl, 5)
  | .inr [x] => (x, 0)
  | .inr (_ :: _ :: _) => (noEl, 4)
def OneOut (B : Nat) (w : World) (e : Ending) (o : El × Int) : Prop :=
  ∃ a1 n1 c1 a2 n2 c2, e = .returned (.tuple #[.agg #[.int .i64 o.1.cl, .int .i64 o.1.tg, .bool o.1.co, .slice a1 n1 c1, .slice a2 n2 c2], .int .i64 o.2]) ∧ Row .u8 5 B w (.slice a1 n1 c1) o.1.d ∧ Row .u8 5 B w (.slice a2 n2 c2) o.1.r
theorem OneOut.no (B : Nat) (w : World) (er : Int) (e : Ending) (h : e = .returned (.tuple #[nilT, .int .i64 er])) : OneOut B w e (noEl, er) :=
  ⟨none, 0, 0, none, 0, 0, h, Row.nil _ _ _ _, Row.nil _ _ _ _⟩
theorem spl_err {M : List Int} (hM : U8s M) : ∀ f p L, M.length - p = f → ∀ e a, spl M p L = .inl (e, a) → e ≠ 0 := by
  intro f
  induction f using Nat.strongRecOn with
  | _ f ih =>
    intro p L hf e a h
    by_cases hp : p < M.length
    · by_cases hL : L.length < 65536
      · cases hE : elemS M p with
        | inl pq =>
          obtain ⟨e', a'⟩ := pq
          rw [spl_bad hp hL hE] at h
          have := elemS_bad hM hp hE
          cases h; omega
        | inr pq =>
          obtain ⟨t, j, E⟩ := pq
          have := elemS_ok hM hp hE
          rw [spl_ok hM hp hL hE] at h
          exact ih (M.length - E) (by omega) E _ rfl e a h
      · rw [spl_many hp (by omega)] at h; cases h; decide
    · rw [spl_end (by omega)] at h; cases h
theorem splitS_err {M : List Int} (hM : U8s M) {e : Int} {a : Nat} (h : splitS M = .inl (e, a)) : e ≠ 0 := by
  unfold splitS at h
  split at h
  · cases h; decide
  · exact spl_err hM _ _ _ rfl e a h
set_option maxRecDepth 20000 in
set_option maxHeartbeats 4000000 in
theorem OneS_any {w : World} (v : Value) (M : List Int) (hv : Sl .u8 w v M) (uM : U8s M) (hl : M.length ≤ 9223372036854775807) :
    Calls Tryz.prog 77 #[v] w fun e w' => OneOut w.heap.size w' e (oneS (splitS M)) ∧ Below w.heap.size w w' := by
  have HX : Hid (Sl .u8 w v M ∧ U8s M ∧ M.length ≤ 9223372036854775807) := ⟨hv, uM, hl⟩
  clear hv uM hl
  obtain ⟨S, hS⟩ : ∃ S, splitS M = S := ⟨_, rfl⟩
  have HS : Hid (splitS M = S) := hS
  rw [hS]
  clear hS
  go_enter Tryz.func77, Tryz.ntmps77
  go_wp2_with fail
  refine (SplitS_any v M (sl_alloc HX.out.1 _) HX.out.2.1 HX.out.2.2).mono ?_
  rintro e w1 ⟨ha, hb⟩
  unfold SplitAns at ha
  rw [HS.out] at ha
  have hB1 : Blk 24 w1 w.heap.size [.int .i64 0, .int .i64 0, .bool false, .slice none 0 0, .slice none 0 0] := below_blk hb (by simp) (Blk.new _ w _)
  have H1 : Hid (Below w.heap.size w w1 ∧ Blk 24 w1 w.heap.size [.int .i64 0, .int .i64 0, .bool false, .slice none 0 0, .slice none 0 0]) := ⟨below_via (al1 _) hb (Nat.le_refl _), hB1⟩
  have d0 : w1.cell? ⟨w.heap.size, 0, none⟩ = some (.int .i64 0) := hB1.cell 0
  have d1 : w1.cell? ⟨w.heap.size, 1, none⟩ = some (.int .i64 0) := hB1.cell 1
  have d2 : w1.cell? ⟨w.heap.size, 2, none⟩ = some (.bool false) := hB1.cell 2
  have d3 : w1.cell? ⟨w.heap.size, 3, none⟩ = some (.slice none 0 0) := hB1.cell 3
  have d4 : w1.cell? ⟨w.heap.size, 4, none⟩ = some (.slice none 0 0) := hB1.cell 4
  have f0 := hB1.frozen 0
  have f1 := hB1.frozen 1
  have f2 := hB1.frozen 2
  have f3 := hB1.frozen 3
  have f4 := hB1.frozen 4
  have hs1 : w.heap.size < w1.heap.size := hB1.lt
  clear hb hB1
  have hB : Hid (Blk 24 (((((w1.setCell ⟨w.heap.size, 0, none⟩ (.int .i64 0)).setCell ⟨w.heap.size, 1, none⟩ (.int .i64 0)).setCell ⟨w.heap.size, 2, none⟩ (.bool false)).setCell ⟨w.heap.size, 3, none⟩ (.slice none 0 0)).setCell ⟨w.heap.size, 4, none⟩ (.slice none 0 0)) w.heap.size [.int .i64 0, .int .i64 0, .bool false, .slice none 0 0, .slice none 0 0]) :=
    ((((H1.out.2.set 0 (.int .i64 0)).set 1 (.int .i64 0)).set 2 (.bool false)).set 3 (.slice none 0 0)).set 4 (.slice none 0 0)
  have hU : Hid (Upd w1 (((((w1.setCell ⟨w.heap.size, 0, none⟩ (.int .i64 0)).setCell ⟨w.heap.size, 1, none⟩ (.int .i64 0)).setCell ⟨w.heap.size, 2, none⟩ (.bool false)).setCell ⟨w.heap.size, 3, none⟩ (.slice none 0 0)).setCell ⟨w.heap.size, 4, none⟩ (.slice none 0 0)) w.heap.size) :=
    ((((Upd.set w1 w.heap.size 0 (.int .i64 0)).trans (Upd.set _ _ 1 (.int .i64 0))).trans (Upd.set _ _ 2 (.bool false))).trans (Upd.set _ _ 3 (.slice none 0 0))).trans (Upd.set _ _ 4 (.slice none 0 0))
  cases S with
  | inl pq =>
    obtain ⟨er, a⟩ := pq
    have hne0 := splitS_err HX.out.2.1 HS.out
    have hne : (er != 0) = true := by simpa using hne0
    obtain rfl : e = .returned (.tuple #[.slice none 0 0, .int .i64 er, .int .i64 a]) := ha
    go_wp2
    refine bodyPost_ret (results_blk2 rfl rfl hB.out Tryz.underlying24 rfl Tryz.sizeT rfl) rfl ⟨?_, hU.out.below H1.out.1 H1.out.1.size (Nat.le_refl _)⟩
    exact OneOut.no _ _ _ _ rfl
  | inr L =>
    obtain ⟨v2, rfl, ht⟩ : ∃ v, e = .returned (.tuple #[v, .int .i64 0, .int .i64 M.length]) ∧ Tlvs (w.alloc (.cells #[.int .i64 0, .int .i64 0, .bool false, .slice none 0 0, .slice none 0 0] 24)).heap.size w1 v L := ha
    obtain ⟨Y, hYL, hm, hrows, hap⟩ := ht
    obtain ⟨al, cl, hv2⟩ := hm.ne
    obtain ⟨k, hk⟩ : ∃ k, Y.length = k := ⟨_, rfl⟩
    rw [hk] at hv2
    subst hv2
    have hlen := hYL
    cases Y with
    | nil =>
      subst hYL
      have hk0 : 0 = k := hk
      subst hk0
      go_wp2
      refine bodyPost_ret (results_blk2 rfl rfl hB.out Tryz.underlying24 rfl Tryz.sizeT rfl) rfl ⟨?_, hU.out.below H1.out.1 H1.out.1.size (Nat.le_refl _)⟩
      exact OneOut.no _ _ _ _ rfl
    | cons y Y =>
      cases Y with
      | cons y2 Y =>
        subst hYL
        have hk1 : (1 : Int) < (k : Int) := by simp at hk; omega
        have hk2 : ((k : Int) == 0) = false := by simp; omega
        clear hk hm hrows hap hlen
        go_wp2
        refine bodyPost_ret (results_blk2 rfl rfl hB.out Tryz.underlying24 rfl Tryz.sizeT rfl) rfl ⟨?_, hU.out.below H1.out.1 H1.out.1.size (Nat.le_refl _)⟩
        exact OneOut.no _ _ _ _ rfl
      | nil =>
        subst hYL
        have hk1 : 1 = k := hk
        subst hk1
        clear hk hlen hap
        obtain ⟨⟨xc, xt, xo, xd, xr⟩, yd, yr⟩ := y
        have hr1 := hrows _ (List.mem_singleton_self _)
        obtain ⟨a1, c1, hd⟩ := hr1.1.ne
        obtain ⟨a2, c2, hr⟩ := hr1.2.ne
        obtain ⟨n1, hn1⟩ : ∃ n1, xd.length = n1 := ⟨_, rfl⟩
        obtain ⟨n2, hn2⟩ : ∃ n2, xr.length = n2 := ⟨_, rfl⟩
        simp only [] at hd hr
        rw [hn1] at hd
        rw [hn2] at hr
        subst hd
        subst hr
        clear hn1 hn2
        obtain ⟨bl, cl2, hv, hc2, hbl, hbv, hcells⟩ := hm.at (by simp)
        simp only [Value.slice.injEq] at hv
        obtain ⟨rfl, h11, rfl⟩ := hv
        clear h11
        have e0 : w1.cell? ⟨bl, 0, none⟩ = some (.int .i64 xc) := hcells 0 (by simp)
        have e1 : w1.cell? ⟨bl, 1, none⟩ = some (.int .i64 xt) := hcells 1 (by simp)
        have e2 : w1.cell? ⟨bl, 2, none⟩ = some (.bool xo) := hcells 2 (by simp)
        have e3 : w1.cell? ⟨bl, 3, none⟩ = some (.slice a1 n1 c1) := hcells 3 (by simp)
        have e4 : w1.cell? ⟨bl, 4, none⟩ = some (.slice a2 n2 c2) := hcells 4 (by simp)
        have H2 : Hid (Row .u8 5 (w.heap.size + 1) w1 (.slice a1 n1 c1) xd ∧ Row .u8 5 (w.heap.size + 1) w1 (.slice a2 n2 c2) xr) := ⟨by simpa using hr1.1, by simpa using hr1.2⟩
        clear hcells hr1 hm hrows hbl hbv hc2 hs1
        go_wp2
        have hB' := ((((H1.out.2.set 0 (.int .i64 xc)).set 1 (.int .i64 xt)).set 2 (.bool xo)).set 3 (.slice a1 n1 c1)).set 4 (.slice a2 n2 c2)
        have hU' := ((((Upd.set w1 w.heap.size 0 (.int .i64 xc)).trans (Upd.set _ _ 1 (.int .i64 xt))).trans (Upd.set _ _ 2 (.bool xo))).trans (Upd.set _ _ 3 (.slice a1 n1 c1))).trans (Upd.set _ _ 4 (.slice a2 n2 c2))
        refine bodyPost_ret (results_blk2 rfl rfl hB' Tryz.underlying24 rfl Tryz.sizeT rfl) rfl ⟨⟨a1, n1, c1, a2, n2, c2, rfl, ?_, ?_⟩, hU'.below H1.out.1 H1.out.1.size (Nat.le_refl _)⟩
        · exact (H2.out.1.upd hU' (Nat.lt_succ_self _)).mono (Nat.le_succ _)
        · exact (H2.out.2.upd hU' (Nat.lt_succ_self _)).mono (Nat.le_succ _)
end Go.Proofs.YtillkhjihggcjaaGreatDoor
/-
  Der: the numbers that stand in an object identifier's bytes.
-/
namespace Go.Proofs.YtillkhjihggcjaaGreatDoor
open Go.RowKit
/-- The numbers of the first i bytes that have ended, and what is read of the next one. -/
def gst (X : List Int) : Nat → List Nat × Nat
  | 0 => ([], 0)
  | i + 1 => if X.getD i 0 < 128 then ((gst X i).1 ++ [(gst X i).2 * 128 + (X.getD i 0 % 128).toNat], 0) else ((gst X i).1, (gst X i).2 * 128 + (X.getD i 0 % 128).toNat)
/-- Does a number begin at place i? -/
def btw (X : List Int) : Nat → Bool
  | 0 => true
  | i + 1 => decide (X.getD i 0 < 128)
def fine (X : List Int) (i : Nat) : Prop := ∀ j, j < i → ¬ (btw X j = true ∧ X.getD j 0 = 128)
def capN (c v : Nat) : Int := ((min v c : Nat) : Int)
def capL (c : Nat) (A : List Nat) : List Int := A.map (capN c)
def arcsOk (X : List Int) : Bool := btw X X.length && decide (0 < (gst X X.length).1.length)
theorem gst_lo {X : List Int} {i : Nat} {x : Int} (hx : X.getD i 0 = x) (h : x < 128) : gst X (i + 1) = ((gst X i).1 ++ [(gst X i).2 * 128 + (x % 128).toNat], 0) := by
  show (if X.getD i 0 < 128 then _ else _) = _; rw [hx, if_pos h]
theorem gst_hi {X : List Int} {i : Nat} {x : Int} (hx : X.getD i 0 = x) (h : ¬ x < 128) : gst X (i + 1) = ((gst X i).1, (gst X i).2 * 128 + (x % 128).toNat) := by
  show (if X.getD i 0 < 128 then _ else _) = _; rw [hx, if_neg h]
theorem gst_len (X : List Int) : ∀ i, (gst X i).1.length ≤ i
  | 0 => by simp [gst]
  | i + 1 => by
    have := gst_len X i
    by_cases h : X.getD i 0 < 128
    · rw [gst_lo rfl h]; simp; omega
    · rw [gst_hi rfl h]; show (gst X i).1.length ≤ _; omega
theorem or_u64 (s : Nat) (x y : Int) (hx0 : 0 ≤ x) (hx : x * 2 ^ s < 18446744073709551616) (hy0 : 0 ≤ y) (hy : y < 2 ^ s) (hs : s ≤ 32) : bits .or .u64 (x * 2 ^ s) y = x * 2 ^ s + y := by
  obtain ⟨a, rfl⟩ := Int.eq_ofNat_of_zero_le hx0
  obtain ⟨b, rfl⟩ := Int.eq_ofNat_of_zero_le hy0
  have e : ((a * 2 ^ s : Nat) : Int) = (a : Int) * 2 ^ s := by simp
  have hb : b < 2 ^ s := by
    have : ((b : Nat) : Int) < ((2 ^ s : Nat) : Int) := by rw [Int.natCast_pow]; exact hy
    exact Int.ofNat_lt.1 this
  have ha : a * 2 ^ s < 2 ^ 64 := by
    have : ((a * 2 ^ s : Nat) : Int) < ((2 ^ 64 : Nat) : Int) := by rw [e]; exact hx
    exact Int.ofNat_lt.1 this
  have hb2 : b < 2 ^ 64 := Nat.lt_of_lt_of_le hb (Nat.pow_le_pow_right (by decide) (by omega))
  have h := (bits_nat .u64 64 (by decide) (fun n h₀ h₁ => by rw [IntKind.wrap_u64]; omega) (a * 2 ^ s) b ha hb2).2
  rw [e] at h
  rw [h, Nat.mul_comm a, ← Nat.two_pow_add_eq_or_of_lt hb a, Nat.mul_comm, Int.natCast_add, e]
def LaidAns (X : List Int) (B : Nat) (w : World) (e : Ending) : Prop :=
  (fine X X.length ∧ ∃ r, e = .returned (.tuple #[r, .bool (arcsOk X)]) ∧ Row .u64 136 B w r (capL 2147483728 (gst X X.length).1)) ∨ (¬ fine X X.length ∧ e = .returned (.tuple #[.slice none 0 0, .bool false]))
set_option maxRecDepth 20000 in
set_option maxHeartbeats 4000000 in
theorem laidArcs_any {w : World} (v : Value) (X : List Int) (hX : Sl .u8 w v X) (uX : U8s X) (hl : X.length ≤ 6000) :
    Calls Tryz.prog 111 #[v] w fun e w' => LaidAns X w.heap.size w' e ∧ Below w.heap.size w w' := by
  obtain ⟨a, c, rfl, hc, hx⟩ := hX
  obtain ⟨n, hn⟩ : ∃ n, X.length = n := ⟨_, rfl⟩
  have HX : Hid (U8s X ∧ X.length = n ∧ (X = [] ∨ ∃ b off, a = some ⟨b, off, none⟩ ∧ b < w.heap.size ∧ Rd .u8 w b off X)) := ⟨uX, hn, hx⟩
  rw [hn] at hl hc ⊢
  have hlI : (n : Int) ≤ 6000 := by omega
  clear uX hx hn
  go_enter Tryz.func111, Tryz.ntmps111
  go_wp2_with fail
  go_loopw [2, 4, 5, 10] (fun lv nv bv iv wr => ∃ (i : Nat) (l0 : Value) (t : Int) (z : Bool), l0 = lv ∧ nv = .int .u64 t ∧ bv = .bool z ∧ iv = .int .i64 i ∧ i ≤ n ∧ t = capN 2147483728 (gst X i).2 ∧ z = btw X i ∧ fine X i ∧ Row .u64 136 w.heap.size wr l0 (capL 2147483728 (gst X i).1) ∧ Below w.heap.size w wr) (fun _ _ _ iv _ => n - (intOf iv).toNat)
  case atStart => exact ⟨0, _, 0, true, rfl, rfl, rfl, rfl, by omega, rfl, rfl, fun j hj => by omega, Row.nil _ _ _ _, Below.refl _ _⟩
  case round =>
    obtain ⟨i, l0, t, z, rfl, rfl, rfl, rfl, hi, ht, hz, hf, hr, hb⟩ := hrel
    have H1 : Hid (t = capN 2147483728 (gst X i).2 ∧ z = btw X i ∧ fine X i ∧ Row .u64 136 w.heap.size wr l0 (capL 2147483728 (gst X i).1) ∧ Below w.heap.size w wr) := ⟨ht, hz, hf, hr, hb⟩
    have t0 : 0 ≤ t := by rw [ht]; unfold capN; omega
    have t1 : t ≤ 2147483728 := by rw [ht]; unfold capN; omega
    clear ht hz hf hr hb
    by_cases hlt : i < n
    · have l1 : (i : Int) < (n : Int) := by omega
      obtain ⟨b, off, hab, hbw, hrd⟩ : ∃ b off, a = some ⟨b, off, none⟩ ∧ b < w.heap.size ∧ Rd .u8 w b off X := by
        rcases HX.out.2.2 with h | h
        · have := HX.out.2.1; rw [h] at this; simp at this; omega
        · exact h
      subst hab
      obtain ⟨x, hx⟩ : ∃ x, X.getD i 0 = x := ⟨_, rfl⟩
      have hxu := HX.out.1.at i
      rw [hx] at hxu
      have x0 := hxu.1
      have x1 := hxu.2
      have cx : wr.cell? ⟨b, off + i, none⟩ = some (.int .u8 x) := by rw [below_rd H1.out.2.2.2.2 hbw hrd i (by have := HX.out.2.1; omega), hx]
      have e1 := and_127 x hxu
      obtain ⟨y, hy⟩ : ∃ y, x % 128 = y := ⟨_, rfl⟩
      rw [hy] at e1
      have y0 : 0 ≤ y := by omega
      have y1 : y ≤ 127 := by omega
      have e2 := or_u64 7 t y t0 (by omega) y0 (by omega) (by decide)
      rw [show t * 2 ^ 7 = t * 128 from rfl] at e2
      obtain ⟨t2, ht2⟩ : ∃ t2, t * 128 + y = t2 := ⟨_, rfl⟩
      rw [ht2] at e2
      have t20 : 0 ≤ t2 := by omega
      have t21 : t2 ≤ 274877917311 := by omega
      have HC : Hid (min t2 2147483728 = capN 2147483728 ((gst X i).2 * 128 + (x % 128).toNat)) := by
        show _ = _
        have h1 := H1.out.1
        unfold capN at h1 ⊢
        omega
      have HXx : Hid (X.getD i 0 = x) := hx
      clear hx hxu hrd ht2 hy
      by_cases hbad : z = true ∧ x = 128
      · obtain ⟨rfl, rfl⟩ := hbad
        go_wp2
        go_ret2
        refine ⟨.inr ⟨fun h => ?_, rfl⟩, H1.out.2.2.2.2⟩
        exact h i (by have := HX.out.2.1; omega) ⟨H1.out.2.1.symm, HXx.out⟩
      have HF : Hid (fine X (i + 1)) := by
        intro j hj
        by_cases hji : j = i
        · subst hji; rw [HXx.out, ← H1.out.2.1]; exact hbad
        · exact H1.out.2.2.1 j (by omega)
      have hzx : z = false ∨ (z = true ∧ (x == 128) = false) := by
        cases z with
        | false => exact .inl rfl
        | true => right; refine ⟨rfl, ?_⟩; simp; intro h; exact hbad ⟨rfl, h⟩
      obtain ⟨m, hm⟩ : ∃ m, min t2 2147483728 = m := ⟨_, rfl⟩
      have HM : Hid (m = capN 2147483728 ((gst X i).2 * 128 + (x % 128).toNat)) := by show _ = _; rw [← hm]; exact HC.out
      have m0 : 0 ≤ m := by omega
      have m1 : m ≤ 2147483728 := by omega
      have hmc : (t2 ≤ 2147483728 ∧ m = t2) ∨ (¬ t2 ≤ 2147483728 ∧ m = 2147483728) := by omega
      clear hbad hm
      by_cases hlo : x < 128
      · have HG := gst_lo HXx.out hlo
        have HGm : Hid (capL 2147483728 (gst X (i + 1)).1 = capL 2147483728 (gst X i).1 ++ [m] ∧ (gst X (i + 1)).2 = 0 ∧ btw X (i + 1) = true) := by
          refine ⟨?_, by rw [HG], ?_⟩
          · rw [HG]; unfold capL; rw [List.map_append, HM.out]; rfl
          · show decide (X.getD i 0 < 128) = true; rw [HXx.out]; simpa using hlo
        clear HG
        have hlen : (capL 2147483728 (gst X i).1).length ≤ 6000 := by unfold capL; rw [List.length_map]; have := gst_len X i; omega
        rcases hzx with rfl | ⟨rfl, hx128⟩ <;> rcases hmc with ⟨hq, rfl⟩ | ⟨hq, rfl⟩
        all_goals
          go_wp2_with (at_builtin; refine wpList_ap rfl (.tmp 29) (.tmp 31) 148 148 rfl .u64 136 8 Tryz.und64 Tryz.info64 (by decide) w.heap.size _ (capL 2147483728 (gst X i).1) rfl (H1.out.2.2.2.1.alloc _) _ [_] rfl (src_sl Tryz.und64 (new_sl (k := .u64) [_] (0, 0))) (by simp; omega) (by have := H1.out.2.2.2.2.size; simp; omega) ?_; intro v2 w2 hr2 hg2)
          have H2 : Hid (Row .u64 136 w.heap.size w2 v2 (capL 2147483728 (gst X (i + 1)).1) ∧ Below w.heap.size w w2) := ⟨by rw [HGm.out.1]; exact hr2, (al2' H1.out.2.2.2.2).trans (hg2.below (H1.out.2.2.2.1.alloc _) (by have := H1.out.2.2.2.2.size; simp; omega))⟩
          clear hr2 hg2
          go_roundw
          case rel => exact ⟨i + 1, _, 0, true, rfl, rfl, rfl, by go_num, by omega, by rw [HGm.out.2.1]; rfl, HGm.out.2.2.symm, HF.out, H2.out.1, H2.out.2⟩
          case measure => simp [intOf]; omega
      · have HG := gst_hi HXx.out hlo
        have HGm : Hid ((gst X (i + 1)).1 = (gst X i).1 ∧ m = capN 2147483728 (gst X (i + 1)).2 ∧ btw X (i + 1) = false) := by
          refine ⟨by rw [HG], ?_, ?_⟩
          · rw [HG]; exact HM.out
          · show decide (X.getD i 0 < 128) = false; rw [HXx.out]; simpa using hlo
        clear HG
        rcases hzx with rfl | ⟨rfl, hx128⟩ <;> rcases hmc with ⟨hq, rfl⟩ | ⟨hq, rfl⟩
        all_goals
          go_wp2
          go_roundw
          case rel => exact ⟨i + 1, _, _, false, rfl, rfl, rfl, by go_num, by omega, HGm.out.2.1, HGm.out.2.2.symm, HF.out, by rw [HGm.out.1]; exact H1.out.2.2.2.1, H1.out.2.2.2.2⟩
          case measure => simp [intOf]; omega
    · obtain rfl : i = n := by omega
      have l1 : ¬ (i : Int) < (i : Int) := by omega
      obtain ⟨al, cl, hv⟩ := H1.out.2.2.2.1.ne
      obtain ⟨k, hk⟩ : ∃ k, (capL 2147483728 (gst X i).1).length = k := ⟨_, rfl⟩
      rw [hk] at hv
      subst hv
      have HK : Hid (arcsOk X = (z && decide (0 < k))) := by
        show _ = _
        unfold arcsOk
        rw [HX.out.2.1, ← H1.out.2.1, ← hk]
        unfold capL
        rw [List.length_map]
      clear hk
      obtain ⟨K, hK⟩ : ∃ K, arcsOk X = K := ⟨_, rfl⟩
      have HKK : Hid (arcsOk X = K) := hK
      rw [hK] at HK
      clear hK
      have fin : Hid (∀ W, W = wr → ∀ e, e = .returned (.tuple #[.slice al k cl, .bool K]) → LaidAns X w.heap.size W e ∧ Below w.heap.size w W) := by
        rintro W rfl e rfl
        refine ⟨.inl ⟨?_, _, by rw [HKK.out], ?_⟩, H1.out.2.2.2.2⟩
        · rw [HX.out.2.1]; exact H1.out.2.2.1
        · rw [HX.out.2.1]; exact H1.out.2.2.2.1
      by_cases hz : z = true
      · subst hz
        have hKt : K = decide (0 < k) := by rw [HK.out]; simp
        go_wp2
        go_ret2
        exact fin.out _ rfl _ (by rw [hKt]; rfl)
      · have hz' : z = false := by simpa using hz
        subst hz'
        have hKt : K = false := by rw [HK.out]; rfl
        go_wp2
        go_ret2
        exact fin.out _ rfl _ (by rw [hKt]; rfl)
end Go.Proofs.YtillkhjihggcjaaGreatDoor
/-
  Der: the greatest of a row of numbers.
-/
namespace Go.Proofs.YtillkhjihggcjaaGreatDoor
open Go.RowKit
/-- The greatest of the first i numbers (of a row that has one). -/
def mxN (X : List Int) : Nat → Int
  | 0 => X.getD 0 0
  | i + 1 => max (mxN X i) (X.getD i 0)
def U64s (X : List Int) : Prop := ∀ x ∈ X, 0 ≤ x ∧ x < 18446744073709551616
theorem U64s.at {X : List Int} (h : U64s X) (i : Nat) : 0 ≤ X.getD i 0 ∧ X.getD i 0 < 18446744073709551616 := by
  by_cases hi : i < X.length
  · simp [hi]; exact h _ (List.getElem_mem hi)
  · simp [List.getD, List.getElem?_eq_none (Nat.le_of_not_lt hi)]
theorem mxN_bd {X : List Int} (h : U64s X) : ∀ i, 0 ≤ mxN X i ∧ mxN X i < 18446744073709551616
  | 0 => h.at 0
  | i + 1 => by
    have h1 := mxN_bd h i
    have h2 := h.at i
    show 0 ≤ max (mxN X i) (X.getD i 0) ∧ max (mxN X i) (X.getD i 0) < _
    omega
theorem mxN_gt {X : List Int} (c : Int) : ∀ i, 0 < i → (c < mxN X i ↔ ∃ j, j < i ∧ c < X.getD j 0) := by
  intro i
  induction i with
  | zero => intro h; omega
  | succ i ih =>
    intro _
    show c < max (mxN X i) (X.getD i 0) ↔ _
    by_cases hi : i = 0
    · subst hi
      show c < max (X.getD 0 0) (X.getD 0 0) ↔ _
      constructor
      · intro h; exact ⟨0, by omega, by omega⟩
      · rintro ⟨j, hj, h⟩
        obtain rfl : j = 0 := by omega
        omega
    · have h1 := ih (by omega)
      constructor
      · intro h
        by_cases h2 : c < X.getD i 0
        · exact ⟨i, by omega, h2⟩
        · obtain ⟨j, hj, h3⟩ := h1.1 (by omega)
          exact ⟨j, by omega, h3⟩
      · rintro ⟨j, hj, h⟩
        by_cases hji : j = i
        · subst hji; omega
        · have := h1.2 ⟨j, by omega, h⟩; omega
set_option maxRecDepth 20000 in
set_option maxHeartbeats 4000000 in
theorem Max_any {w : World} (b c n : Nat) (X : List Int) (hr : Rd .u64 w b 0 X) (hn : X.length = n) (h0 : 0 < n) (hl : n ≤ 9000) (hu : U64s X) :
    Calls Tryz.prog 112 #[.slice (some ⟨b, 0, none⟩) n c] w fun e w' => e = .returned (.int .u64 (mxN X n)) ∧ w = w' := by
  have HX : Hid (Rd .u64 w b 0 X ∧ X.length = n ∧ U64s X) := ⟨hr, hn, hu⟩
  obtain ⟨x, hx⟩ : ∃ x, X.getD 0 0 = x := ⟨_, rfl⟩
  have c0 : w.cell? ⟨b, 0, none⟩ = some (.int .u64 x) := by have := hr 0 (by omega); rw [hx] at this; exact this
  have HX0 : Hid (mxN X 1 = x) := by show max (X.getD 0 0) (X.getD 0 0) = _; rw [hx]; omega
  clear hr hn hu hx
  have nI : (1 : Int) ≤ (n : Int) := by omega
  have nI2 : (n : Int) ≤ 9000 := by omega
  go_enter Tryz.func112, Tryz.ntmps112
  go_wp2_with fail
  go_loopw [3, 4] (fun mv iv wr => ∃ (i : Nat) (t : Int), mv = .int .u64 t ∧ iv = .int .i64 i ∧ 1 ≤ i ∧ i ≤ n ∧ mxN X i = t ∧ w = wr) (fun _ iv _ => n - (intOf iv).toNat)
  case atStart => exact ⟨1, x, rfl, rfl, by omega, by omega, HX0.out, rfl⟩
  case round =>
    obtain ⟨i, t, rfl, rfl, hi1, hi, ht, rfl⟩ := hrel
    by_cases hlt : i < n
    · have l1 : (i : Int) < (n : Int) := by omega
      obtain ⟨y, hy⟩ : ∃ y, X.getD i 0 = y := ⟨_, rfl⟩
      have cy : w.cell? ⟨b, i, none⟩ = some (.int .u64 y) := by have := HX.out.1 i (by have := HX.out.2.1; omega); rw [hy, Nat.zero_add] at this; exact this
      have hm : mxN X (i + 1) = max t y := by show max (mxN X i) (X.getD i 0) = _; rw [ht, hy]
      have HM : Hid (mxN X (i + 1) = max t y) := hm
      clear ht hy hm c0
      go_wp2
      go_roundw
      case rel => exact ⟨i + 1, _, rfl, by go_num, by omega, by omega, by rw [HM.out]; split <;> omega, trivial⟩
      case measure => simp [intOf]; omega
    · obtain rfl : i = n := by omega
      have l1 : ¬ (i : Int) < (i : Int) := by omega
      have HT : Hid (mxN X i = t) := ht
      clear ht c0
      go_wp2
      go_ret
      exact ⟨by rw [HT.out]; rfl, rfl⟩
end Go.Proofs.YtillkhjihggcjaaGreatDoor
/-
  Der: yes or no; are bytes a number's?
-/
namespace Go.Proofs.YtillkhjihggcjaaGreatDoor
open Go.RowKit
/-- What Bool answers. -/
def boolV (X : List Int) : Bool := decide (X.length = 1) && decide (X.getD 0 0 = 255)
def boolE (X : List Int) : Int := if X.length = 1 ∧ (X.getD 0 0 = 0 ∨ X.getD 0 0 = 255) then 0 else 6
theorem bool_cases {w : World} {v : Value} {X : List Int} (hX : Sl .u8 w v X) (uX : U8s X) : (∃ a n c, v = .slice a n c ∧ X.length = n ∧ n ≠ 1) ∨ ∃ b off c x, v = .slice (some ⟨b, off, none⟩) 1 c ∧ X = [x] ∧ U8 x ∧ w.cell? ⟨b, off, none⟩ = some (.int .u8 x) := by
  obtain ⟨a, c, rfl, hc, hx⟩ := hX
  by_cases h : X.length = 1
  · right
    rcases hx with hx | ⟨b, off, rfl, hb, hr⟩
    · rw [hx] at h; simp at h
    · match X, h with
      | [x], _ => exact ⟨b, off, c, x, rfl, rfl, uX x (by simp), hr 0 (by simp)⟩
  · exact .inl ⟨a, _, c, rfl, rfl, h⟩
/-- Are these bytes a number's? -/
def intOk (X : List Int) : Bool := if X.length < 2 then decide (X.length = 1) else !((decide (X.getD 0 0 = 0) && decide (X.getD 1 0 < 128)) || (decide (X.getD 0 0 = 255) && decide (128 ≤ X.getD 1 0)))
theorem int_cases {w : World} {v : Value} {X : List Int} (hX : Sl .u8 w v X) (uX : U8s X) (hl : X.length ≤ 16384) : (∃ a n c, v = .slice a n c ∧ X.length = n ∧ n < 2) ∨ ∃ b off n c x y, v = .slice (some ⟨b, off, none⟩) n c ∧ X.length = n ∧ 2 ≤ n ∧ n ≤ c ∧ n ≤ 16384 ∧ X.getD 0 0 = x ∧ X.getD 1 0 = y ∧ U8 x ∧ U8 y ∧ w.cell? ⟨b, off, none⟩ = some (.int .u8 x) ∧ w.cell? ⟨b, off + 1, none⟩ = some (.int .u8 y) := by
  obtain ⟨a, c, rfl, hc, hx⟩ := hX
  by_cases h : X.length < 2
  · exact .inl ⟨a, _, c, rfl, rfl, h⟩
  · right
    rcases hx with hx | ⟨b, off, rfl, hb, hr⟩
    · rw [hx] at h; simp at h
    · exact ⟨b, off, _, c, _, _, rfl, rfl, by omega, hc, hl, rfl, rfl, uX.at 0, uX.at 1, hr 0 (by omega), hr 1 (by omega)⟩
set_option maxHeartbeats 2000000 in
theorem isInt_any {w : World} (v : Value) (X : List Int) (hX : Sl .u8 w v X) (uX : U8s X) (hl : X.length ≤ 16384) :
    Calls Tryz.prog 117 #[v] w fun e w' => e = .returned (.bool (intOk X)) ∧ w = w' := by
  rcases int_cases hX uX hl with ⟨a, n, c, rfl, hn, h1⟩ | ⟨b, off, n, c, x, y, rfl, hn, h2, hc, hn4, ex, ey, ⟨u0, u1⟩, ⟨y0, y1⟩, c0, c1⟩
  · have HV : Hid (intOk X = decide (n = 1)) := by
      show intOk X = _
      unfold intOk; rw [hn, if_pos h1]
    have hI : (n : Int) < 2 := by omega
    clear hX uX hn
    by_cases h : n = 1
    · subst h
      clear h1 hI
      go_enter Tryz.func117, Tryz.ntmps117
      go_wp2
      go_ret
      exact ⟨by rw [HV.out]; rfl, rfl⟩
    · have h0 : n = 0 := by omega
      subst h0
      clear h1 hI h
      go_enter Tryz.func117, Tryz.ntmps117
      go_wp2
      go_ret
      exact ⟨by rw [HV.out]; rfl, rfl⟩
  · have HV : Hid (intOk X = !((decide (x = 0) && decide (y < 128)) || (decide (x = 255) && decide (128 ≤ y)))) := by
      show intOk X = _
      unfold intOk; rw [hn, if_neg (by omega), ex, ey]
    have hI : (2 : Int) ≤ (n : Int) := by omega
    have hI1 : (1 : Int) < (n : Int) := by omega
    have hI2 : ¬ (n : Int) < 2 := by omega
    have hI3 : ((n : Int) == 1) = false := by simp; omega
    clear hX uX hn ex ey
    by_cases hy : y < 128
    · have q1 : decide (128 ≤ y) = false := by simp; omega
      have q2 : decide (y < 128) = true := by simp; omega
      have q3 : ¬ 128 ≤ y := by omega
      by_cases hx0 : x = 0
      · subst hx0
        have HW : Hid (intOk X = false) := by show _ = _; rw [HV.out]; simp; omega
        go_enter Tryz.func117, Tryz.ntmps117
        go_wp2
        all_goals go_ret
        all_goals exact ⟨by rw [HW.out]; rfl, rfl⟩
      by_cases hx1 : x = 255
      · subst hx1
        have HW : Hid (intOk X = true) := by show _ = _; rw [HV.out]; simp; omega
        clear hx0
        go_enter Tryz.func117, Tryz.ntmps117
        go_wp2
        all_goals go_ret
        all_goals exact ⟨by rw [HW.out]; rfl, rfl⟩
      · have HW : Hid (intOk X = true) := by show _ = _; rw [HV.out, decide_eq_false hx0, decide_eq_false hx1]; rfl
        have b0 : (x == 0) = false := by simpa using hx0
        have b1 : (x == 255) = false := by simpa using hx1
        clear hx0 hx1
        go_enter Tryz.func117, Tryz.ntmps117
        go_wp2
        all_goals go_ret
        all_goals exact ⟨by rw [HW.out]; rfl, rfl⟩
    · have q1 : decide (128 ≤ y) = true := by simp; omega
      have q2 : decide (y < 128) = false := by simp; omega
      have q3 : 128 ≤ y := by omega
      by_cases hx0 : x = 0
      · subst hx0
        have HW : Hid (intOk X = true) := by show _ = _; rw [HV.out]; simp; omega
        go_enter Tryz.func117, Tryz.ntmps117
        go_wp2
        all_goals go_ret
        all_goals exact ⟨by rw [HW.out]; rfl, rfl⟩
      by_cases hx1 : x = 255
      · subst hx1
        have HW : Hid (intOk X = false) := by show _ = _; rw [HV.out]; simp; omega
        clear hx0
        go_enter Tryz.func117, Tryz.ntmps117
        go_wp2
        all_goals go_ret
        all_goals exact ⟨by rw [HW.out]; rfl, rfl⟩
      · have HW : Hid (intOk X = true) := by show _ = _; rw [HV.out, decide_eq_false hx0, decide_eq_false hx1]; rfl
        have b0 : (x == 0) = false := by simpa using hx0
        have b1 : (x == 255) = false := by simpa using hx1
        clear hx0 hx1
        go_enter Tryz.func117, Tryz.ntmps117
        go_wp2
        all_goals go_ret
        all_goals exact ⟨by rw [HW.out]; rfl, rfl⟩
set_option maxHeartbeats 2000000 in
theorem whole_any {w : World} (v : Value) (X : List Int) (hX : Sl .u8 w v X) (uX : U8s X) (hl : X.length ≤ 16384) :
    Calls Tryz.prog 60 #[v] w fun e w' => e = .returned (.bool (intOk X)) ∧ w = w' := by
  rcases int_cases hX uX hl with ⟨a, n, c, rfl, hn, h1⟩ | ⟨b, off, n, c, x, y, rfl, hn, h2, hc, hn4, ex, ey, ⟨u0, u1⟩, ⟨y0, y1⟩, c0, c1⟩
  · have HV : Hid (intOk X = decide (n = 1)) := by
      show intOk X = _
      unfold intOk; rw [hn, if_pos h1]
    have hI : (n : Int) < 2 := by omega
    clear hX uX hn
    by_cases h : n = 1
    · subst h
      clear h1 hI
      go_enter Tryz.func60, Tryz.ntmps60
      go_wp2
      go_ret
      exact ⟨by rw [HV.out]; rfl, rfl⟩
    · have h0 : n = 0 := by omega
      subst h0
      clear h1 hI h
      go_enter Tryz.func60, Tryz.ntmps60
      go_wp2
      go_ret
      exact ⟨by rw [HV.out]; rfl, rfl⟩
  · have HV : Hid (intOk X = !((decide (x = 0) && decide (y < 128)) || (decide (x = 255) && decide (128 ≤ y)))) := by
      show intOk X = _
      unfold intOk; rw [hn, if_neg (by omega), ex, ey]
    have hI : (2 : Int) ≤ (n : Int) := by omega
    have hI1 : (1 : Int) < (n : Int) := by omega
    have hI2 : ¬ (n : Int) < 2 := by omega
    have hI3 : ((n : Int) == 1) = false := by simp; omega
    clear hX uX hn ex ey
    by_cases hy : y < 128
    · have q1 : decide (128 ≤ y) = false := by simp; omega
      have q2 : decide (y < 128) = true := by simp; omega
      have q3 : ¬ 128 ≤ y := by omega
      by_cases hx0 : x = 0
      · subst hx0
        have HW : Hid (intOk X = false) := by show _ = _; rw [HV.out]; simp; omega
        go_enter Tryz.func60, Tryz.ntmps60
        go_wp2
        all_goals go_ret
        all_goals exact ⟨by rw [HW.out]; rfl, rfl⟩
      by_cases hx1 : x = 255
      · subst hx1
        have HW : Hid (intOk X = true) := by show _ = _; rw [HV.out]; simp; omega
        clear hx0
        go_enter Tryz.func60, Tryz.ntmps60
        go_wp2
        all_goals go_ret
        all_goals exact ⟨by rw [HW.out]; rfl, rfl⟩
      · have HW : Hid (intOk X = true) := by show _ = _; rw [HV.out, decide_eq_false hx0, decide_eq_false hx1]; rfl
        have b0 : (x == 0) = false := by simpa using hx0
        have b1 : (x == 255) = false := by simpa using hx1
        clear hx0 hx1
        go_enter Tryz.func60, Tryz.ntmps60
        go_wp2
        all_goals go_ret
        all_goals exact ⟨by rw [HW.out]; rfl, rfl⟩
    · have q1 : decide (128 ≤ y) = true := by simp; omega
      have q2 : decide (y < 128) = false := by simp; omega
      have q3 : 128 ≤ y := by omega
      by_cases hx0 : x = 0
      · subst hx0
        have HW : Hid (intOk X = true) := by show _ = _; rw [HV.out]; simp; omega
        go_enter Tryz.func60, Tryz.ntmps60
        go_wp2
        all_goals go_ret
        all_goals exact ⟨by rw [HW.out]; rfl, rfl⟩
      by_cases hx1 : x = 255
      · subst hx1
        have HW : Hid (intOk X = false) := by show _ = _; rw [HV.out]; simp; omega
        clear hx0
        go_enter Tryz.func60, Tryz.ntmps60
        go_wp2
        all_goals go_ret
        all_goals exact ⟨by rw [HW.out]; rfl, rfl⟩
      · have HW : Hid (intOk X = true) := by show _ = _; rw [HV.out, decide_eq_false hx0, decide_eq_false hx1]; rfl
        have b0 : (x == 0) = false := by simpa using hx0
        have b1 : (x == 255) = false := by simpa using hx1
        clear hx0 hx1
        go_enter Tryz.func60, Tryz.ntmps60
        go_wp2
        all_goals go_ret
        all_goals exact ⟨by rw [HW.out]; rfl, rfl⟩
end Go.Proofs.YtillkhjihggcjaaGreatDoor
/-
  Der: any bytes as a small number.
-/
namespace Go.Proofs.YtillkhjihggcjaaGreatDoor
open Go.RowKit
/-- The number of the first i bytes, the first bit being its sign. -/
def iv (X : List Int) : Nat → Int
  | 0 => if 128 ≤ X.getD 0 0 then -1 else 0
  | i + 1 => 256 * iv X i + X.getD i 0
theorem iv_bd {X : List Int} (hU : U8s X) : ∀ i, -(128 * ((256 ^ i : Nat) : Int)) ≤ iv X (i + 1) ∧ iv X (i + 1) < 128 * ((256 ^ i : Nat) : Int)
  | 0 => by
    have h := hU.at 0
    unfold U8 at h
    show -(128 * ((1 : Nat) : Int)) ≤ 256 * (if 128 ≤ X.getD 0 0 then -1 else 0) + X.getD 0 0 ∧ 256 * (if 128 ≤ X.getD 0 0 then -1 else 0) + X.getD 0 0 < 128 * ((1 : Nat) : Int)
    split <;> omega
  | i + 1 => by
    have h := hU.at (i + 1)
    unfold U8 at h
    have h2 := iv_bd hU i
    rw [Nat.pow_succ]
    obtain ⟨P, hP⟩ : ∃ P, 256 ^ i = P := ⟨_, rfl⟩
    rw [hP] at h2 ⊢
    show _ ≤ 256 * iv X (i + 1) + X.getD (i + 1) 0 ∧ 256 * iv X (i + 1) + X.getD (i + 1) 0 < _
    omega
theorem iv_small {X : List Int} (hU : U8s X) (i : Nat) (hi : i ≤ 6) : -36028797018963968 ≤ iv X (i + 1) ∧ iv X (i + 1) < 36028797018963968 := by
  have h := iv_bd hU i
  have h2 : 256 ^ i ≤ 256 ^ 6 := Nat.pow_le_pow_right (by decide) hi
  omega
theorem iv_range {X : List Int} (hU : U8s X) (i : Nat) (hi : i ≤ 7) : -9223372036854775808 ≤ iv X (i + 1) ∧ iv X (i + 1) < 9223372036854775808 := by
  have h := iv_bd hU i
  have h2 : 256 ^ i ≤ 256 ^ 7 := Nat.pow_le_pow_right (by decide) hi
  omega
theorem or_s64 (t x : Int) (h0 : -36028797018963968 ≤ t) (h1 : t < 36028797018963968) (x0 : 0 ≤ x) (x1 : x < 256) : bits .or .i64 (t * 256) x = t * 256 + x := by
  obtain ⟨b, rfl⟩ := Int.eq_ofNat_of_zero_le x0
  obtain ⟨m, hm⟩ : ∃ m : Nat, (m : Int) = t % 72057594037927936 := ⟨(t % 72057594037927936).toNat, by omega⟩
  have e1 : (BitVec.ofInt 64 (t * 256)).toNat = m * 256 := by
    rw [BitVec.toNat_ofInt]
    have : t * 256 % ((2 ^ 64 : Nat) : Int) = ((m * 256 : Nat) : Int) := by
      have : ((2 ^ 64 : Nat) : Int) = 18446744073709551616 := by decide
      rw [this]; omega
    rw [this]; rfl
  have e2 : (BitVec.ofInt 64 ((b : Nat) : Int)).toNat = b := by
    rw [BitVec.ofInt_natCast, BitVec.toNat_ofNat]
    exact Nat.mod_eq_of_lt (by omega)
  have hb : b < 2 ^ 8 := by omega
  show IntKind.i64.wrap ((BitVec.ofInt 64 (t * 256) ||| BitVec.ofInt 64 ((b : Nat) : Int)).toNat : Int) = _
  rw [BitVec.toNat_or, e1, e2, show m * 256 = 2 ^ 8 * m by omega, ← Nat.two_pow_add_eq_or_of_lt hb m, IntKind.wrap_i64]
  have : ((2 ^ 8 * m + b : Nat) : Int) = 256 * (m : Int) + b := by omega
  rw [this]
  omega
theorem wrap_i8 (x : Int) : IntKind.i8.wrap x = (x + 128) % 256 - 128 := by
  simp [IntKind.wrap, IntKind.bits, IntKind.signed]
  omega
def intV (X : List Int) : Int := if intOk X = true ∧ X.length ≤ 8 then iv X X.length else 0
def intE (X : List Int) : Int := if intOk X = false then 6 else if 8 < X.length then 3 else 0
theorem intOk_ne {X : List Int} (h : intOk X = true) : 1 ≤ X.length := by
  cases X with
  | nil => simp [intOk] at h
  | cons x X => simp
set_option maxRecDepth 20000 in
set_option maxHeartbeats 4000000 in
theorem Int_any {w : World} (v : Value) (X : List Int) (hX : Sl .u8 w v X) (uX : U8s X) (hl : X.length ≤ 16384) :
    Calls Tryz.prog 114 #[v] w fun e w' => e = .returned (.tuple #[.int .i64 (intV X), .int .i64 (intE X)]) ∧ w = w' := by
  have HI : Hid (Calls Tryz.prog 117 #[v] w fun e w' => e = .returned (.bool (intOk X)) ∧ w = w') := isInt_any v X hX uX hl
  obtain ⟨a, c, rfl, hc, hx⟩ := hX
  obtain ⟨n, hn⟩ : ∃ n, X.length = n := ⟨_, rfl⟩
  rw [hn] at HI hc ⊢
  cases hok : intOk X with
  | false =>
    have HV : Hid (intV X = 0 ∧ intE X = 6) := ⟨by unfold intV; rw [hok]; simp, by unfold intE; rw [hok]; simp⟩
    rw [hok] at HI
    clear hx hok
    go_enter Tryz.func114, Tryz.ntmps114
    go_wp2_with fail
    refine HI.out.mono ?_
    rintro e w1 ⟨rfl, rfl⟩
    go_wp2
    go_ret2
    exact ⟨by rw [HV.out.1, HV.out.2]; rfl, rfl⟩
  | true =>
    have hne := intOk_ne hok
    rw [hok] at HI
    rcases hx with hx | ⟨b, off, rfl, hb, hr⟩
    · rw [hx] at hne; simp at hne
    by_cases hbig : 8 < n
    · have HV : Hid (intV X = 0 ∧ intE X = 3) := ⟨by unfold intV; rw [if_neg (fun h => by have := h.2; omega)], by unfold intE; rw [hok, hn]; simp [hbig]⟩
      have hbI : (8 : Int) < (n : Int) := by omega
      clear hr hok
      go_enter Tryz.func114, Tryz.ntmps114
      go_wp2_with fail
      refine HI.out.mono ?_
      rintro e w1 ⟨rfl, rfl⟩
      go_wp2
      go_ret2
      exact ⟨by rw [HV.out.1, HV.out.2]; rfl, rfl⟩
    · have HV : Hid (intV X = iv X n ∧ intE X = 0) := ⟨by unfold intV; rw [if_pos ⟨hok, by omega⟩, hn], by unfold intE; rw [hok, hn]; simp [hbig]⟩
      have hbI : ¬ (8 : Int) < (n : Int) := by omega
      rw [hn] at hne
      have hneI : (1 : Int) ≤ (n : Int) := by omega
      have hneI2 : (0 : Int) < (n : Int) := by omega
      obtain ⟨x, hx⟩ : ∃ x, X.getD 0 0 = x := ⟨_, rfl⟩
      have cx : w.cell? ⟨b, off, none⟩ = some (.int .u8 x) := by have := hr 0 (by omega); rw [hx] at this; exact this
      have ux := uX.at 0
      rw [hx] at ux
      obtain ⟨x0, x1⟩ := ux
      obtain ⟨t0, ht0⟩ : ∃ t0, iv X 1 = t0 := ⟨_, rfl⟩
      have hsm := iv_small uX 0 (by omega)
      rw [ht0] at hsm
      have e8 : IntKind.i8.wrap x = t0 := by
        rw [← ht0]
        show _ = 256 * (if 128 ≤ X.getD 0 0 then -1 else 0) + X.getD 0 0
        rw [hx, wrap_i8]
        split <;> omega
      have ew : wrap64 t0 = t0 := by unfold wrap64; omega
      have HX : Hid (Rd .u8 w b off X ∧ U8s X ∧ X.length = n ∧ iv X 1 = t0) := ⟨hr, uX, hn, ht0⟩
      obtain ⟨ba, hba⟩ : ∃ ba : Option Addr, (if c = 1 then some ⟨b, off, none⟩ else some ⟨b, off + 1, none⟩) = ba := ⟨_, rfl⟩
      have HBA : Hid (1 < n → ba = some ⟨b, off + 1, none⟩) := by intro h; rw [← hba, if_neg (by omega)]
      obtain ⟨n2, hn2⟩ : ∃ n2, n - 1 = n2 := ⟨_, rfl⟩
      have hcI : (1 : Int) ≤ (c : Int) := by omega
      clear hr hok uX hx ht0 hsm hl
      go_enter Tryz.func114, Tryz.ntmps114
      go_wp2_with fail
      refine HI.out.mono ?_
      rintro e w1 ⟨rfl, rfl⟩
      go_wp2_with fail
      go_loopw [4, 21] (fun nv iv' wr => ∃ (i : Nat) (t : Int), nv = .int .i64 t ∧ iv' = .int .i64 i ∧ i ≤ n2 ∧ iv X (i + 1) = t ∧ w = wr) (fun _ iv' _ => n2 - (intOf iv').toNat)
      case atStart => exact ⟨0, t0, by rw [ew], rfl, by omega, HX.out.2.2.2, rfl⟩
      case round =>
        obtain ⟨i, t, rfl, rfl, hi, ht, rfl⟩ := hrel
        have HT : Hid (iv X (i + 1) = t) := ht
        clear ht
        by_cases hlt : i < n2
        · have l1 : (i : Int) < (n2 : Int) := by omega
          have hba2 := HBA.out (by omega)
          subst hba2
          obtain ⟨y, hy⟩ : ∃ y, X.getD (i + 1) 0 = y := ⟨_, rfl⟩
          have cy : w.cell? ⟨b, off + 1 + i, none⟩ = some (.int .u8 y) := by
            have := HX.out.1 (i + 1) (by have := HX.out.2.2.1; omega)
            rw [hy, show off + (i + 1) = off + 1 + i by omega] at this; exact this
          have uy := HX.out.2.1.at (i + 1)
          rw [hy] at uy
          obtain ⟨y0, y1⟩ := uy
          have hs := iv_small HX.out.2.1 i (by omega)
          rw [HT.out] at hs
          have e2 := or_s64 t y hs.1 hs.2 y0 (by omega)
          have ew2 : wrap64 (t * 256) = t * 256 := by unfold wrap64; omega
          obtain ⟨t2, ht2⟩ : ∃ t2, t * 256 + y = t2 := ⟨_, rfl⟩
          rw [ht2] at e2
          have HT2 : Hid (iv X (i + 1 + 1) = t2) := by
            show 256 * iv X (i + 1) + X.getD (i + 1) 0 = _
            rw [HT.out, hy]; omega
          clear hs hy ht2
          go_wp2
          go_roundw
          case rel => exact ⟨i + 1, t2, rfl, by go_num, by omega, HT2.out, trivial⟩
          case measure => simp [intOf]; omega
        · obtain rfl : i = n2 := by omega
          have l1 : ¬ (i : Int) < (i : Int) := by omega
          go_wp2
          go_ret2
          exact ⟨by rw [HV.out.1, HV.out.2, show n = i + 1 by omega, HT.out]; rfl, rfl⟩
end Go.Proofs.YtillkhjihggcjaaGreatDoor
/-
  Der: rows of elements that are read.
-/
namespace Go.Proofs.YtillkhjihggcjaaGreatDoor
open Go.RowKit
/-- A slice of elements that can be read; the slice itself is the call's own. -/
def TlvR (B : Nat) (w : World) (v : Value) (L : List El) : Prop :=
  ∃ Y : List Tc, Y.map (·.1) = L ∧ MRow 5 24 B w v Y.length (tlvCells Y) ∧ ∀ y ∈ Y, Rw .u8 5 B w y.2.1 y.1.d ∧ Rw .u8 5 B w y.2.2 y.1.r
theorem TlvR.nil (B : Nat) (w : World) : TlvR B w (.slice none 0 0) [] := ⟨[], rfl, MRow.nil _ _ _ _, by simp⟩
theorem TlvR.below {B : Nat} {w w' : World} {v : Value} {L : List El} (h : TlvR B w v L) (hb : Below w.heap.size w w') : TlvR B w' v L := by
  obtain ⟨Y, h1, h2, h3⟩ := h
  exact ⟨Y, h1, h2.below hb, fun y hy => ⟨(h3 y hy).1.below hb, (h3 y hy).2.below hb⟩⟩
theorem TlvR.mono {B B' : Nat} {w : World} {v : Value} {L : List El} (h : TlvR B w v L) (hb : B' ≤ B) : TlvR B' w v L := by
  obtain ⟨Y, h1, h2, h3⟩ := h
  exact ⟨Y, h1, h2.mono hb, fun y hy => ⟨(h3 y hy).1.mono hb, (h3 y hy).2.mono hb⟩⟩
theorem Tlvs.r {B : Nat} {w : World} {v : Value} {L : List El} (h : Tlvs B w v L) : TlvR B w v L := by
  obtain ⟨Y, h1, h2, h3, _⟩ := h
  exact ⟨Y, h1, h2, fun y hy => ⟨.inl (h3 y hy).1, .inl (h3 y hy).2⟩⟩
theorem Rw.mgrew {B : Nat} {w w' : World} {v u : Value} {xs : List Int} (h : Rw .u8 5 B w v xs) (hg : MGrew 24 w w' u) : Rw .u8 5 B w' v xs := by
  rcases h with h | h
  · exact .inl (h.mgrew hg)
  · exact .inr h
end Go.Proofs.YtillkhjihggcjaaGreatDoor
