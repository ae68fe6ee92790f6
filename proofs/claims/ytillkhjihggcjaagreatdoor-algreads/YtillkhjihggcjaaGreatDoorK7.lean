/-
  Der: One.
-/
import Derived.Shelf.Strconv.Itoa0
import Derived.Shelf.Strconv.Itoa1
import Derived.Shelf.LaysM
import Derived.Shelf.Strconv.Itoa2
import Derived.Shelf.Strconv.AppendUint10
import Derived.Shelf.Strconv.AppendInt10
import Derived.Lib.ItoaLen
import Derived.Test.YtillkhjihggcjaaGreatDoorK6
namespace Go.Proofs.YtillkhjihggcjaaGreatDoor
open Go.RowKit
def noEl : El := ⟨0, 0, false, [], []⟩
/-- What One tells, of what Split tells. -/
def oneS : Sp → El × Int
  | .inl (e, _) => (noEl, e)
  | .inr [] => (noEl, 5)
  | .inr [x] => (x, 0)
  | .inr (_ :: _ :: _) => (noEl, 4)
def OneOut (B : Nat) (w : World) (e : Ending) (o : El × Int) : Prop :=
  ∃ a1 n1 c1 a2 n2 c2, e = .returned (.tuple #[.agg #[.int .i64 o.1.cl, .int .i64 o.1.tg, .bool o.1.co, .slice a1 n1 c1, .slice a2 n2 c2], .int .i64 o.2]) ∧ Row .u8 5 B w (.slice a1 n1 c1) o.1.d ∧ Row .u8 5 B w (.slice a2 n2 c2) o.1.r
theorem OneOut.no (B : Nat) (w : World) (er : Int) (e : Ending) (h : e = .returned (.tuple #[nilT, .int .i64 er])) : OneOut B w e (noEl, er) :=
  ⟨none, 0, 0, none, 0, 0, h, Row.nil _ _ _ _, Row.nil _ _ _ _⟩
theorem spl_err {M : List Int} (hM : U8s M) : ∀ f p L, M.length - p = f → ∀ e a, spl M p L = .inl (e, a) → e ≠ 0 := by
  intro f
  induction f using Nat.strongRecOn with
  | _ f ih =>
    intro p L hf e a h
    by_cases hp : p < M.length
    · by_cases hL : L.length < 65536
      · cases hE : elemS M p with
        | inl pq =>
          obtain ⟨e', a'⟩ := pq
          rw [spl_bad hp hL hE] at h
          have := elemS_bad hM hp hE
          cases h; omega
        | inr pq =>
          obtain ⟨t, j, E⟩ := pq
          have := elemS_ok hM hp hE
          rw [spl_ok hM hp hL hE] at h
          exact ih (M.length - E) (by omega) E _ rfl e a h
      · rw [spl_many hp (by omega)] at h; cases h; decide
    · rw [spl_end (by omega)] at h; cases h
theorem splitS_err {M : List Int} (hM : U8s M) {e : Int} {a : Nat} (h : splitS M = .inl (e, a)) : e ≠ 0 := by
  unfold splitS at h
  split at h
  · cases h; decide
  · exact spl_err hM _ _ _ rfl e a h
set_option maxRecDepth 20000 in
set_option maxHeartbeats 4000000 in
theorem OneS_any {w : World} (v : Value) (M : List Int) (hv : Sl .u8 w v M) (uM : U8s M) (hl : M.length ≤ 9223372036854775807) :
    Calls Tryz.prog 77 #[v] w fun e w' => OneOut w.heap.size w' e (oneS (splitS M)) ∧ Below w.heap.size w w' := by
  have HX : Hid (Sl .u8 w v M ∧ U8s M ∧ M.length ≤ 9223372036854775807) := ⟨hv, uM, hl⟩
  clear hv uM hl
  obtain ⟨S, hS⟩ : ∃ S, splitS M = S := ⟨_, rfl⟩
  have HS : Hid (splitS M = S) := hS
  rw [hS]
  clear hS
  go_enter Tryz.func77, Tryz.ntmps77
  go_wp2_with fail
  refine (SplitS_any v M (sl_alloc HX.out.1 _) HX.out.2.1 HX.out.2.2).mono ?_
  rintro e w1 ⟨ha, hb⟩
  unfold SplitAns at ha
  rw [HS.out] at ha
  have hB1 : Blk 24 w1 w.heap.size [.int .i64 0, .int .i64 0, .bool false, .slice none 0 0, .slice none 0 0] := below_blk hb (by simp) (Blk.new _ w _)
  have H1 : Hid (Below w.heap.size w w1 ∧ Blk 24 w1 w.heap.size [.int .i64 0, .int .i64 0, .bool false, .slice none 0 0, .slice none 0 0]) := ⟨below_via (al1 _) hb (Nat.le_refl _), hB1⟩
  have d0 : w1.cell? ⟨w.heap.size, 0, none⟩ = some (.int .i64 0) := hB1.cell 0
  have d1 : w1.cell? ⟨w.heap.size, 1, none⟩ = some (.int .i64 0) := hB1.cell 1
  have d2 : w1.cell? ⟨w.heap.size, 2, none⟩ = some (.bool false) := hB1.cell 2
  have d3 : w1.cell? ⟨w.heap.size, 3, none⟩ = some (.slice none 0 0) := hB1.cell 3
  have d4 : w1.cell? ⟨w.heap.size, 4, none⟩ = some (.slice none 0 0) := hB1.cell 4
  have f0 := hB1.frozen 0
  have f1 := hB1.frozen 1
  have f2 := hB1.frozen 2
  have f3 := hB1.frozen 3
  have f4 := hB1.frozen 4
  have hs1 : w.heap.size < w1.heap.size := hB1.lt
  clear hb hB1
  have hB : Hid (Blk 24 (((((w1.setCell ⟨w.heap.size, 0, none⟩ (.int .i64 0)).setCell ⟨w.heap.size, 1, none⟩ (.int .i64 0)).setCell ⟨w.heap.size, 2, none⟩ (.bool false)).setCell ⟨w.heap.size, 3, none⟩ (.slice none 0 0)).setCell ⟨w.heap.size, 4, none⟩ (.slice none 0 0)) w.heap.size [.int .i64 0, .int .i64 0, .bool false, .slice none 0 0, .slice none 0 0]) :=
    ((((H1.out.2.set 0 (.int .i64 0)).set 1 (.int .i64 0)).set 2 (.bool false)).set 3 (.slice none 0 0)).set 4 (.slice none 0 0)
  have hU : Hid (Upd w1 (((((w1.setCell ⟨w.heap.size, 0, none⟩ (.int .i64 0)).setCell ⟨w.heap.size, 1, none⟩ (.int .i64 0)).setCell ⟨w.heap.size, 2, none⟩ (.bool false)).setCell ⟨w.heap.size, 3, none⟩ (.slice none 0 0)).setCell ⟨w.heap.size, 4, none⟩ (.slice none 0 0)) w.heap.size) :=
    ((((Upd.set w1 w.heap.size 0 (.int .i64 0)).trans (Upd.set _ _ 1 (.int .i64 0))).trans (Upd.set _ _ 2 (.bool false))).trans (Upd.set _ _ 3 (.slice none 0 0))).trans (Upd.set _ _ 4 (.slice none 0 0))
  cases S with
  | inl pq =>
    obtain ⟨er, a⟩ := pq
    have hne0 := splitS_err HX.out.2.1 HS.out
    have hne : (er != 0) = true := by simpa using hne0
    obtain rfl : e = .returned (.tuple #[.slice none 0 0, .int .i64 er, .int .i64 a]) := ha
    go_wp2
    refine bodyPost_ret (results_blk2 rfl rfl hB.out Tryz.underlying24 rfl Tryz.sizeT rfl) rfl ⟨?_, hU.out.below H1.out.1 H1.out.1.size (Nat.le_refl _)⟩
    exact OneOut.no _ _ _ _ rfl
  | inr L =>
    obtain ⟨v2, rfl, ht⟩ : ∃ v, e = .returned (.tuple #[v, .int .i64 0, .int .i64 M.length]) ∧ Tlvs (w.alloc (.cells #[.int .i64 0, .int .i64 0, .bool false, .slice none 0 0, .slice none 0 0] 24)).heap.size w1 v L := ha
    obtain ⟨Y, hYL, hm, hrows, hap⟩ := ht
    obtain ⟨al, cl, hv2⟩ := hm.ne
    obtain ⟨k, hk⟩ : ∃ k, Y.length = k := ⟨_, rfl⟩
    rw [hk] at hv2
    subst hv2
    have hlen := hYL
    cases Y with
    | nil =>
      subst hYL
      have hk0 : 0 = k := hk
      subst hk0
      go_wp2
      refine bodyPost_ret (results_blk2 rfl rfl hB.out Tryz.underlying24 rfl Tryz.sizeT rfl) rfl ⟨?_, hU.out.below H1.out.1 H1.out.1.size (Nat.le_refl _)⟩
      exact OneOut.no _ _ _ _ rfl
    | cons y Y =>
      cases Y with
      | cons y2 Y =>
        subst hYL
        have hk1 : (1 : Int) < (k : Int) := by simp at hk; omega
        have hk2 : ((k : Int) == 0) = false := by simp; omega
        clear hk hm hrows hap hlen
        go_wp2
        refine bodyPost_ret (results_blk2 rfl rfl hB.out Tryz.underlying24 rfl Tryz.sizeT rfl) rfl ⟨?_, hU.out.below H1.out.1 H1.out.1.size (Nat.le_refl _)⟩
        exact OneOut.no _ _ _ _ rfl
      | nil =>
        subst hYL
        have hk1 : 1 = k := hk
        subst hk1
        clear hk hlen hap
        obtain ⟨⟨xc, xt, xo, xd, xr⟩, yd, yr⟩ := y
        have hr1 := hrows _ (List.mem_singleton_self _)
        obtain ⟨a1, c1, hd⟩ := hr1.1.ne
        obtain ⟨a2, c2, hr⟩ := hr1.2.ne
        obtain ⟨n1, hn1⟩ : ∃ n1, xd.length = n1 := ⟨_, rfl⟩
        obtain ⟨n2, hn2⟩ : ∃ n2, xr.length = n2 := ⟨_, rfl⟩
        simp only [] at hd hr
        rw [hn1] at hd
        rw [hn2] at hr
        subst hd
        subst hr
        clear hn1 hn2
        obtain ⟨bl, cl2, hv, hc2, hbl, hbv, hcells⟩ := hm.at (by simp)
        simp only [Value.slice.injEq] at hv
        obtain ⟨rfl, h11, rfl⟩ := hv
        clear h11
        have e0 : w1.cell? ⟨bl, 0, none⟩ = some (.int .i64 xc) := hcells 0 (by simp)
        have e1 : w1.cell? ⟨bl, 1, none⟩ = some (.int .i64 xt) := hcells 1 (by simp)
        have e2 : w1.cell? ⟨bl, 2, none⟩ = some (.bool xo) := hcells 2 (by simp)
        have e3 : w1.cell? ⟨bl, 3, none⟩ = some (.slice a1 n1 c1) := hcells 3 (by simp)
        have e4 : w1.cell? ⟨bl, 4, none⟩ = some (.slice a2 n2 c2) := hcells 4 (by simp)
        have H2 : Hid (Row .u8 5 (w.heap.size + 1) w1 (.slice a1 n1 c1) xd ∧ Row .u8 5 (w.heap.size + 1) w1 (.slice a2 n2 c2) xr) := ⟨by simpa using hr1.1, by simpa using hr1.2⟩
        clear hcells hr1 hm hrows hbl hbv hc2 hs1
        go_wp2
        have hB' := ((((H1.out.2.set 0 (.int .i64 xc)).set 1 (.int .i64 xt)).set 2 (.bool xo)).set 3 (.slice a1 n1 c1)).set 4 (.slice a2 n2 c2)
        have hU' := ((((Upd.set w1 w.heap.size 0 (.int .i64 xc)).trans (Upd.set _ _ 1 (.int .i64 xt))).trans (Upd.set _ _ 2 (.bool xo))).trans (Upd.set _ _ 3 (.slice a1 n1 c1))).trans (Upd.set _ _ 4 (.slice a2 n2 c2))
        refine bodyPost_ret (results_blk2 rfl rfl hB' Tryz.underlying24 rfl Tryz.sizeT rfl) rfl ⟨⟨a1, n1, c1, a2, n2, c2, rfl, ?_, ?_⟩, hU'.below H1.out.1 H1.out.1.size (Nat.le_refl _)⟩
        · exact (H2.out.1.upd hU' (Nat.lt_succ_self _)).mono (Nat.le_succ _)
        · exact (H2.out.2.upd hU' (Nat.lt_succ_self _)).mono (Nat.le_succ _)
end Go.Proofs.YtillkhjihggcjaaGreatDoor
/-
  Der: the numbers that stand in an object identifier's bytes.
-/
namespace Go.Proofs.YtillkhjihggcjaaGreatDoor
open Go.RowKit
/-- The numbers of the first i bytes that have ended, and what is read of the next one. -/
def gst (X : List Int) : Nat → List Nat × Nat
  | 0 => ([], 0)
  | i + 1 => if X.getD i 0 < 128 then ((gst X i).1 ++ [(gst X i).2 * 128 + (X.getD i 0 % 128).toNat], 0) else ((gst X i).1, (gst X i).2 * 128 + (X.getD i 0 % 128).toNat)
/-- Does a number begin at place i? -/
def btw (X : List Int) : Nat → Bool
  | 0 => true
  | i + 1 => decide (X.getD i 0 < 128)
def fine (X : List Int) (i : Nat) : Prop := ∀ j, j < i → ¬ (btw X j = true ∧ X.getD j 0 = 128)
def capN (c v : Nat) : Int := ((min v c : Nat) : Int)
def capL (c : Nat) (A : List Nat) : List Int := A.map (capN c)
def arcsOk (X : List Int) : Bool := btw X X.length && decide (0 < (gst X X.length).1.length)
theorem gst_lo {X : List Int} {i : Nat} {x : Int} (hx : X.getD i 0 = x) (h : x < 128) : gst X (i + 1) = ((gst X i).1 ++ [(gst X i).2 * 128 + (x % 128).toNat], 0) := by
  show (if X.getD i 0 < 128 then _ else _) = _; rw [hx, if_pos h]
theorem gst_hi {X : List Int} {i : Nat} {x : Int} (hx : X.getD i 0 = x) (h : ¬ x < 128) : gst X (i + 1) = ((gst X i).1, (gst X i).2 * 128 + (x % 128).toNat) := by
  show (if X.getD i 0 < 128 then _ else _) = _; rw [hx, if_neg h]
theorem gst_len (X : List Int) : ∀ i, (gst X i).1.length ≤ i
  | 0 => by simp [gst]
  | i + 1 => by
    have := gst_len X i
    by_cases h : X.getD i 0 < 128
    · rw [gst_lo rfl h]; simp; omega
    · rw [gst_hi rfl h]; show (gst X i).1.length ≤ _; omega
theorem or_u64 (s : Nat) (x y : Int) (hx0 : 0 ≤ x) (hx : x * 2 ^ s < 18446744073709551616) (hy0 : 0 ≤ y) (hy : y < 2 ^ s) (hs : s ≤ 32) : bits .or .u64 (x * 2 ^ s) y = x * 2 ^ s + y := by
  obtain ⟨a, rfl⟩ := Int.eq_ofNat_of_zero_le hx0
  obtain ⟨b, rfl⟩ := Int.eq_ofNat_of_zero_le hy0
  have e : ((a * 2 ^ s : Nat) : Int) = (a : Int) * 2 ^ s := by simp
  have hb : b < 2 ^ s := by
    have : ((b : Nat) : Int) < ((2 ^ s : Nat) : Int) := by rw [Int.natCast_pow]; exact hy
    exact Int.ofNat_lt.1 this
  have ha : a * 2 ^ s < 2 ^ 64 := by
    have : ((a * 2 ^ s : Nat) : Int) < ((2 ^ 64 : Nat) : Int) := by rw [e]; exact hx
    exact Int.ofNat_lt.1 this
  have hb2 : b < 2 ^ 64 := Nat.lt_of_lt_of_le hb (Nat.pow_le_pow_right (by decide) (by omega))
  have h := (bits_nat .u64 64 (by decide) (fun n h₀ h₁ => by rw [IntKind.wrap_u64]; omega) (a * 2 ^ s) b ha hb2).2
  rw [e] at h
  rw [h, Nat.mul_comm a, ← Nat.two_pow_add_eq_or_of_lt hb a, Nat.mul_comm, Int.natCast_add, e]
def LaidAns (X : List Int) (B : Nat) (w : World) (e : Ending) : Prop :=
  (fine X X.length ∧ ∃ r, e = .returned (.tuple #[r, .bool (arcsOk X)]) ∧ Row .u64 136 B w r (capL 2147483728 (gst X X.length).1)) ∨ (¬ fine X X.length ∧ e = .returned (.tuple #[.slice none 0 0, .bool false]))
set_option maxRecDepth 20000 in
set_option maxHeartbeats 4000000 in
theorem laidArcs_any {w : World} (v : Value) (X : List Int) (hX : Sl .u8 w v X) (uX : U8s X) (hl : X.length ≤ 5000) :
    Calls Tryz.prog 111 #[v] w fun e w' => LaidAns X w.heap.size w' e ∧ Below w.heap.size w w' := by
  obtain ⟨a, c, rfl, hc, hx⟩ := hX
  obtain ⟨n, hn⟩ : ∃ n, X.length = n := ⟨_, rfl⟩
  have HX : Hid (U8s X ∧ X.length = n ∧ (X = [] ∨ ∃ b off, a = some ⟨b, off, none⟩ ∧ b < w.heap.size ∧ Rd .u8 w b off X)) := ⟨uX, hn, hx⟩
  rw [hn] at hl hc ⊢
  have hlI : (n : Int) ≤ 5000 := by omega
  clear uX hx hn
  go_enter Tryz.func111, Tryz.ntmps111
  go_wp2_with fail
  go_loopw [2, 4, 5, 10] (fun lv nv bv iv wr => ∃ (i : Nat) (l0 : Value) (t : Int) (z : Bool), l0 = lv ∧ nv = .int .u64 t ∧ bv = .bool z ∧ iv = .int .i64 i ∧ i ≤ n ∧ t = capN 2147483728 (gst X i).2 ∧ z = btw X i ∧ fine X i ∧ Row .u64 136 w.heap.size wr l0 (capL 2147483728 (gst X i).1) ∧ Below w.heap.size w wr) (fun _ _ _ iv _ => n - (intOf iv).toNat)
  case atStart => exact ⟨0, _, 0, true, rfl, rfl, rfl, rfl, by omega, rfl, rfl, fun j hj => by omega, Row.nil _ _ _ _, Below.refl _ _⟩
  case round =>
    obtain ⟨i, l0, t, z, rfl, rfl, rfl, rfl, hi, ht, hz, hf, hr, hb⟩ := hrel
    have H1 : Hid (t = capN 2147483728 (gst X i).2 ∧ z = btw X i ∧ fine X i ∧ Row .u64 136 w.heap.size wr l0 (capL 2147483728 (gst X i).1) ∧ Below w.heap.size w wr) := ⟨ht, hz, hf, hr, hb⟩
    have t0 : 0 ≤ t := by rw [ht]; unfold capN; omega
    have t1 : t ≤ 2147483728 := by rw [ht]; unfold capN; omega
    clear ht hz hf hr hb
    by_cases hlt : i < n
    · have l1 : (i : Int) < (n : Int) := by omega
      obtain ⟨b, off, hab, hbw, hrd⟩ : ∃ b off, a = some ⟨b, off, none⟩ ∧ b < w.heap.size ∧ Rd .u8 w b off X := by
        rcases HX.out.2.2 with h | h
        · have := HX.out.2.1; rw [h] at this; simp at this; omega
        · exact h
      subst hab
      obtain ⟨x, hx⟩ : ∃ x, X.getD i 0 = x := ⟨_, rfl⟩
      have hxu := HX.out.1.at i
      rw [hx] at hxu
      have x0 := hxu.1
      have x1 := hxu.2
      have cx : wr.cell? ⟨b, off + i, none⟩ = some (.int .u8 x) := by rw [below_rd H1.out.2.2.2.2 hbw hrd i (by have := HX.out.2.1; omega), hx]
      have e1 := and_127 x hxu
      obtain ⟨y, hy⟩ : ∃ y, x % 128 = y := ⟨_, rfl⟩
      rw [hy] at e1
      have y0 : 0 ≤ y := by omega
      have y1 : y ≤ 127 := by omega
      have e2 := or_u64 7 t y t0 (by omega) y0 (by omega) (by decide)
      rw [show t * 2 ^ 7 = t * 128 from rfl] at e2
      obtain ⟨t2, ht2⟩ : ∃ t2, t * 128 + y = t2 := ⟨_, rfl⟩
      rw [ht2] at e2
      have t20 : 0 ≤ t2 := by omega
      have t21 : t2 ≤ 274877917311 := by omega
      have HC : Hid (min t2 2147483728 = capN 2147483728 ((gst X i).2 * 128 + (x % 128).toNat)) := by
        show _ = _
        have h1 := H1.out.1
        unfold capN at h1 ⊢
        omega
      have HXx : Hid (X.getD i 0 = x) := hx
      clear hx hxu hrd ht2 hy
      by_cases hbad : z = true ∧ x = 128
      · obtain ⟨rfl, rfl⟩ := hbad
        go_wp2
        go_ret2
        refine ⟨.inr ⟨fun h => ?_, rfl⟩, H1.out.2.2.2.2⟩
        exact h i (by have := HX.out.2.1; omega) ⟨H1.out.2.1.symm, HXx.out⟩
      have HF : Hid (fine X (i + 1)) := by
        intro j hj
        by_cases hji : j = i
        · subst hji; rw [HXx.out, ← H1.out.2.1]; exact hbad
        · exact H1.out.2.2.1 j (by omega)
      have hzx : z = false ∨ (z = true ∧ (x == 128) = false) := by
        cases z with
        | false => exact .inl rfl
        | true => right; refine ⟨rfl, ?_⟩; simp; intro h; exact hbad ⟨rfl, h⟩
      obtain ⟨m, hm⟩ : ∃ m, min t2 2147483728 = m := ⟨_, rfl⟩
      have HM : Hid (m = capN 2147483728 ((gst X i).2 * 128 + (x % 128).toNat)) := by show _ = _; rw [← hm]; exact HC.out
      have m0 : 0 ≤ m := by omega
      have m1 : m ≤ 2147483728 := by omega
      have hmc : (t2 ≤ 2147483728 ∧ m = t2) ∨ (¬ t2 ≤ 2147483728 ∧ m = 2147483728) := by omega
      clear hbad hm
      by_cases hlo : x < 128
      · have HG := gst_lo HXx.out hlo
        have HGm : Hid (capL 2147483728 (gst X (i + 1)).1 = capL 2147483728 (gst X i).1 ++ [m] ∧ (gst X (i + 1)).2 = 0 ∧ btw X (i + 1) = true) := by
          refine ⟨?_, by rw [HG], ?_⟩
          · rw [HG]; unfold capL; rw [List.map_append, HM.out]; rfl
          · show decide (X.getD i 0 < 128) = true; rw [HXx.out]; simpa using hlo
        clear HG
        have hlen : (capL 2147483728 (gst X i).1).length ≤ 5000 := by unfold capL; rw [List.length_map]; have := gst_len X i; omega
        rcases hzx with rfl | ⟨rfl, hx128⟩ <;> rcases hmc with ⟨hq, rfl⟩ | ⟨hq, rfl⟩
        all_goals
          go_wp2_with (at_builtin; refine wpList_ap rfl (.tmp 29) (.tmp 31) 148 148 rfl .u64 136 8 Tryz.und64 Tryz.info64 (by decide) w.heap.size _ (capL 2147483728 (gst X i).1) rfl (H1.out.2.2.2.1.alloc _) _ [_] rfl (src_sl Tryz.und64 (new_sl (k := .u64) [_] (0, 0))) (by simp; omega) (by have := H1.out.2.2.2.2.size; simp; omega) ?_; intro v2 w2 hr2 hg2)
          have H2 : Hid (Row .u64 136 w.heap.size w2 v2 (capL 2147483728 (gst X (i + 1)).1) ∧ Below w.heap.size w w2) := ⟨by rw [HGm.out.1]; exact hr2, (al2' H1.out.2.2.2.2).trans (hg2.below (H1.out.2.2.2.1.alloc _) (by have := H1.out.2.2.2.2.size; simp; omega))⟩
          clear hr2 hg2
          go_roundw
          case rel => exact ⟨i + 1, _, 0, true, rfl, rfl, rfl, by go_num, by omega, by rw [HGm.out.2.1]; rfl, HGm.out.2.2.symm, HF.out, H2.out.1, H2.out.2⟩
          case measure => simp [intOf]; omega
      · have HG := gst_hi HXx.out hlo
        have HGm : Hid ((gst X (i + 1)).1 = (gst X i).1 ∧ m = capN 2147483728 (gst X (i + 1)).2 ∧ btw X (i + 1) = false) := by
          refine ⟨by rw [HG], ?_, ?_⟩
          · rw [HG]; exact HM.out
          · show decide (X.getD i 0 < 128) = false; rw [HXx.out]; simpa using hlo
        clear HG
        rcases hzx with rfl | ⟨rfl, hx128⟩ <;> rcases hmc with ⟨hq, rfl⟩ | ⟨hq, rfl⟩
        all_goals
          go_wp2
          go_roundw
          case rel => exact ⟨i + 1, _, _, false, rfl, rfl, rfl, by go_num, by omega, HGm.out.2.1, HGm.out.2.2.symm, HF.out, by rw [HGm.out.1]; exact H1.out.2.2.2.1, H1.out.2.2.2.2⟩
          case measure => simp [intOf]; omega
    · obtain rfl : i = n := by omega
      have l1 : ¬ (i : Int) < (i : Int) := by omega
      obtain ⟨al, cl, hv⟩ := H1.out.2.2.2.1.ne
      obtain ⟨k, hk⟩ : ∃ k, (capL 2147483728 (gst X i).1).length = k := ⟨_, rfl⟩
      rw [hk] at hv
      subst hv
      have HK : Hid (arcsOk X = (z && decide (0 < k))) := by
        show _ = _
        unfold arcsOk
        rw [HX.out.2.1, ← H1.out.2.1, ← hk]
        unfold capL
        rw [List.length_map]
      clear hk
      obtain ⟨K, hK⟩ : ∃ K, arcsOk X = K := ⟨_, rfl⟩
      have HKK : Hid (arcsOk X = K) := hK
      rw [hK] at HK
      clear hK
      have fin : Hid (∀ W, W = wr → ∀ e, e = .returned (.tuple #[.slice al k cl, .bool K]) → LaidAns X w.heap.size W e ∧ Below w.heap.size w W) := by
        rintro W rfl e rfl
        refine ⟨.inl ⟨?_, _, by rw [HKK.out], ?_⟩, H1.out.2.2.2.2⟩
        · rw [HX.out.2.1]; exact H1.out.2.2.1
        · rw [HX.out.2.1]; exact H1.out.2.2.2.1
      by_cases hz : z = true
      · subst hz
        have hKt : K = decide (0 < k) := by rw [HK.out]; simp
        go_wp2
        go_ret2
        exact fin.out _ rfl _ (by rw [hKt]; rfl)
      · have hz' : z = false := by simpa using hz
        subst hz'
        have hKt : K = false := by rw [HK.out]; rfl
        go_wp2
        go_ret2
        exact fin.out _ rfl _ (by rw [hKt]; rfl)
end Go.Proofs.YtillkhjihggcjaaGreatDoor
/-
  Der: the greatest of a row of numbers.
-/
namespace Go.Proofs.YtillkhjihggcjaaGreatDoor
open Go.RowKit
/-- The greatest of the first i numbers (of a row that has one). -/
def mxN (X : List Int) : Nat → Int
  | 0 => X.getD 0 0
  | i + 1 => max (mxN X i) (X.getD i 0)
def U64s (X : List Int) : Prop := ∀ x ∈ X, 0 ≤ x ∧ x < 18446744073709551616
theorem U64s.at {X : List Int} (h : U64s X) (i : Nat) : 0 ≤ X.getD i 0 ∧ X.getD i 0 < 18446744073709551616 := by
  by_cases hi : i < X.length
  · simp [hi]; exact h _ (List.getElem_mem hi)
  · simp [List.getD, List.getElem?_eq_none (Nat.le_of_not_lt hi)]
theorem mxN_bd {X : List Int} (h : U64s X) : ∀ i, 0 ≤ mxN X i ∧ mxN X i < 18446744073709551616
  | 0 => h.at 0
  | i + 1 => by
    have h1 := mxN_bd h i
    have h2 := h.at i
    show 0 ≤ max (mxN X i) (X.getD i 0) ∧ max (mxN X i) (X.getD i 0) < _
    omega
theorem mxN_gt {X : List Int} (c : Int) : ∀ i, 0 < i → (c < mxN X i ↔ ∃ j, j < i ∧ c < X.getD j 0) := by
  intro i
  induction i with
  | zero => intro h; omega
  | succ i ih =>
    intro _
    show c < max (mxN X i) (X.getD i 0) ↔ _
    by_cases hi : i = 0
    · subst hi
      show c < max (X.getD 0 0) (X.getD 0 0) ↔ _
      constructor
      · intro h; exact ⟨0, by omega, by omega⟩
      · rintro ⟨j, hj, h⟩
        obtain rfl : j = 0 := by omega
        omega
    · have h1 := ih (by omega)
      constructor
      · intro h
        by_cases h2 : c < X.getD i 0
        · exact ⟨i, by omega, h2⟩
        · obtain ⟨j, hj, h3⟩ := h1.1 (by omega)
          exact ⟨j, by omega, h3⟩
      · rintro ⟨j, hj, h⟩
        by_cases hji : j = i
        · subst hji; omega
        · have := h1.2 ⟨j, by omega, h⟩; omega
set_option maxRecDepth 20000 in
set_option maxHeartbeats 4000000 in
theorem Max_any {w : World} (b c n : Nat) (X : List Int) (hr : Rd .u64 w b 0 X) (hn : X.length = n) (h0 : 0 < n) (hl : n ≤ 9000) (hu : U64s X) :
    Calls Tryz.prog 112 #[.slice (some ⟨b, 0, none⟩) n c] w fun e w' => e = .returned (.int .u64 (mxN X n)) ∧ w = w' := by
  have HX : Hid (Rd .u64 w b 0 X ∧ X.length = n ∧ U64s X) := ⟨hr, hn, hu⟩
  obtain ⟨x, hx⟩ : ∃ x, X.getD 0 0 = x := ⟨_, rfl⟩
  have c0 : w.cell? ⟨b, 0, none⟩ = some (.int .u64 x) := by have := hr 0 (by omega); rw [hx] at this; exact this
  have HX0 : Hid (mxN X 1 = x) := by show max (X.getD 0 0) (X.getD 0 0) = _; rw [hx]; omega
  clear hr hn hu hx
  have nI : (1 : Int) ≤ (n : Int) := by omega
  have nI2 : (n : Int) ≤ 9000 := by omega
  go_enter Tryz.func112, Tryz.ntmps112
  go_wp2_with fail
  go_loopw [3, 4] (fun mv iv wr => ∃ (i : Nat) (t : Int), mv = .int .u64 t ∧ iv = .int .i64 i ∧ 1 ≤ i ∧ i ≤ n ∧ mxN X i = t ∧ w = wr) (fun _ iv _ => n - (intOf iv).toNat)
  case atStart => exact ⟨1, x, rfl, rfl, by omega, by omega, HX0.out, rfl⟩
  case round =>
    obtain ⟨i, t, rfl, rfl, hi1, hi, ht, rfl⟩ := hrel
    by_cases hlt : i < n
    · have l1 : (i : Int) < (n : Int) := by omega
      obtain ⟨y, hy⟩ : ∃ y, X.getD i 0 = y := ⟨_, rfl⟩
      have cy : w.cell? ⟨b, i, none⟩ = some (.int .u64 y) := by have := HX.out.1 i (by have := HX.out.2.1; omega); rw [hy, Nat.zero_add] at this; exact this
      have hm : mxN X (i + 1) = max t y := by show max (mxN X i) (X.getD i 0) = _; rw [ht, hy]
      have HM : Hid (mxN X (i + 1) = max t y) := hm
      clear ht hy hm c0
      go_wp2
      go_roundw
      case rel => exact ⟨i + 1, _, rfl, by go_num, by omega, by omega, by rw [HM.out]; split <;> omega, trivial⟩
      case measure => simp [intOf]; omega
    · obtain rfl : i = n := by omega
      have l1 : ¬ (i : Int) < (i : Int) := by omega
      have HT : Hid (mxN X i = t) := ht
      clear ht c0
      go_wp2
      go_ret
      exact ⟨by rw [HT.out]; rfl, rfl⟩
end Go.Proofs.YtillkhjihggcjaaGreatDoor
/-
  append onto an empty slice without room, whatever it points at; steps of regions that draw their order.
-/
namespace Go.Proofs.YtillkhjihggcjaaGreatDoor
open Go.RowKit
/-- A row of the call's own, or a slice that is empty. -/
def Rw (k : IntKind) (e : TypeId) (B : Nat) (w : World) (v : Value) (xs : List Int) : Prop := Row k e B w v xs ∨ (xs = [] ∧ ∃ a c, v = .slice a 0 c)
theorem Rw.sl {k : IntKind} {e : TypeId} {B : Nat} {w : World} {v : Value} {xs : List Int} (h : Rw k e B w v xs) : Sl k w v xs := by
  rcases h with h | ⟨rfl, a, c, rfl⟩
  · exact h.sl
  · exact ⟨a, c, rfl, Nat.zero_le _, .inl rfl⟩
theorem Rw.below {k : IntKind} {e : TypeId} {B : Nat} {w w' : World} {v : Value} {xs : List Int} (h : Rw k e B w v xs) (hb : Below w.heap.size w w') : Rw k e B w' v xs := by
  rcases h with h | h
  · exact .inl (h.below hb)
  · exact .inr h
theorem Rw.alloc {k : IntKind} {e : TypeId} {B : Nat} {w : World} {v : Value} {xs : List Int} (h : Rw k e B w v xs) (o : Obj) : Rw k e B (w.alloc o) v xs := h.below ((Below.refl _ _).alloc (Nat.le_refl _) o)
theorem Rw.mono {k : IntKind} {e : TypeId} {B B' : Nat} {w : World} {v : Value} {xs : List Int} (h : Rw k e B w v xs) (hb : B' ≤ B) : Rw k e B' w v xs := by
  rcases h with h | h
  · exact .inl (h.mono hb)
  · exact .inr h
theorem Rw.ne {k : IntKind} {e : TypeId} {B : Nat} {w : World} {v : Value} {xs : List Int} (h : Rw k e B w v xs) : ∃ a c, v = .slice a xs.length c := by
  rcases h with h | ⟨rfl, a, c, rfl⟩
  · exact h.ne
  · exact ⟨a, c, rfl⟩
theorem run_ap0 {P : Program} (w : World) (t tx ty e : TypeId) (i : TypeInfo) (k : IntKind) (ht : P.underlying t = some (.slice e)) (hi : P.info? e = some i) (hz : i.zero = some (.int k 0)) (hsize : i.size = 1) (hby : 0 < i.bytes)
    (a : Addr) {B : Nat} {x : Value} {ys : List Int} (hs : Src P 1 tx x ys.length (ys.map (Value.int k)) w) (hb : ys.length * i.bytes ≤ 140737488355328) (hB : B ≤ w.heap.size) :
    ∃ v' w', (Builtin.append_ #[t, tx] ty #[.slice (some a) 0 0, x]).run P w = .ok v' w' ∧ Rw k e B w' v' ys ∧ Below w.heap.size w w' := by
  have hle : ys.length ≤ 140737488355328 := Nat.le_trans (Nat.le_mul_of_pos_right _ hby) hb
  have hs1 : Src P i.size tx x ys.length (ys.map (Value.int k)) w := by rw [hsize]; exact hs
  by_cases h0 : ys.length = 0
  · have hy : ys = [] := List.eq_nil_of_length_eq_zero h0
    subst hy
    refine ⟨.slice (some a) 0 0, w, ?_, .inr ⟨rfl, _, _, rfl⟩, Below.refl _ _⟩
    have h1 := hs1.cells
    have h2 := hs1.len
    simp only [List.length_nil, List.map_nil] at h1 h2
    rcases hs1.kind with ⟨e', hk⟩ | hk
    · simp [Builtin.append_, run_underlying ht, run_underlying hk, sizeOf, typeInfo, hi, h2, h1, storeCells]
    · simp [Builtin.append_, run_underlying ht, run_underlying hk, sizeOf, typeInfo, hi, h2, h1, storeCells]
  · have hold : (Builtin.firstCells i.size 0 (.slice (some a) 0 0)).run P w.drew = .ok ([] : List Value).toArray w.drew := run_firstCells_some w.drew i.size 0 a 0 0 [] (by simp) (by simp)
    have h1 := run_append_grow_src (P := P) w t tx ty e i (.int k 0) ht hi hz (some a) 0 0 _ hold x ys.length _ hs1 (by omega) (by omega) (growslice_fits (by omega) (by rw [Nat.zero_add]; exact hb))
    refine ⟨_, _, h1, .inl ?_, (Below.refl _ _).drew.alloc (Nat.le_refl _) _⟩
    have hge := grownCap_ge w (0 + ys.length) 0 e
    have hcm : grownCap w (0 + ys.length) 0 e ≤ maxLen := grownCap_le_maxLen w _ 0 e (by unfold maxLen; omega)
    obtain ⟨C, hC⟩ : ∃ C, grownCap w (0 + ys.length) 0 e = 0 + ys.length + C := ⟨_, (Nat.add_sub_of_le hge).symm⟩
    rw [hC] at hcm ⊢
    have hzc : Builtin.zeroCells (Value.cells (.int k 0)) C = (List.replicate C (.int k 0)).toArray := by
      apply Array.ext'
      simp only [Builtin.zeroCells, Value.cells]
      simp
      rw [List.eq_replicate_iff]
      exact ⟨by simp, fun y hy => by obtain ⟨j, _, rfl⟩ := List.mem_map.1 hy; simp [Nat.mod_one]⟩
    refine .inr ⟨w.heap.size, ys ++ List.replicate C 0, ?_, hB, ?_, by simp, List.take_left, by simp; omega⟩
    · simp
    · unfold Arr
      rw [show 0 + ys.length + C - (0 + ys.length) = C by omega, hzc]
      have := heap_alloc_new w.drew (.cells ((ys.map (Value.int k)).toArray ++ (List.replicate C (Value.int k 0)).toArray) e)
      simp only [List.map_append, List.map_replicate]
      rw [show (w.drew.heap.size) = w.heap.size from rfl] at this
      simp only [List.nil_append]
      rw [this]; simp
theorem step_ap0 {P : Program} {ops : Array Oper} {o : Oper} {a : Act} {w : World} {K : Act → World → Prop} {Q : Exit → Act → World → Prop} {E : Prop} (hgd : o.guard = none) (s x : Operand) (t tx : TypeId)
    (ho : o.op = .call { callee := .builtin .append, args := #[s, x], argTypes := #[t, tx] }) (k : IntKind) (e : TypeId) (bytes : Nat) (ht : P.underlying t = some (.slice e))
    (hi : (P.info? e).map (fun i => (i.zero, i.size, i.bytes)) = some (some (.int k 0), 1, bytes)) (hby : 0 < bytes)
    (B : Nat) (ad : Addr) (hs : a.eval s = .slice (some ad) 0 0) (u : Value) (ys : List Int) (hx : a.eval x = u) (hy : Src P 1 tx u ys.length (ys.map (Value.int k)) w)
    (hb : ys.length * bytes ≤ 140737488355328) (hB : B ≤ w.heap.size)
    (h : ∀ v' w', Rw k e B w' v' ys → Below w.heap.size w w' → K (a.put o.dst v') w') : if Region.wanted o (yielded ops a.tmps) = true then Oper.wp P o a w K Q else E := by
  have hw : Region.wanted o (yielded ops a.tmps) = true := by simp [Region.wanted, hgd]
  rw [if_pos hw]
  obtain ⟨i0, hi0, hz0, hz1, hz2⟩ := info_parts hi
  obtain ⟨v', w', hrun, h2, h3⟩ := run_ap0 (P := P) w t tx o.type e i0 k ht hi0 hz0 hz1 (by omega) ad (B := B) hy (by rw [hz2]; exact hb) hB
  unfold Oper.wp execOp
  simp only [ho, resolve, invoke, builtin, Sem.run_bind, Sem.run_pure, Result.andThen_ok, List.map_toArray, List.map_cons, List.map_nil, hs, hx, hrun]
  exact h v' w' h2 h3
theorem step_apm {P : Program} {ops : Array Oper} {o : Oper} {a : Act} {w : World} {K : Act → World → Prop} {Q : Exit → Act → World → Prop} {E : Prop} (hgd : o.guard = none) (s x : Operand) (t tx : TypeId)
    (ho : o.op = .call { callee := .builtin .append, args := #[s, x], argTypes := #[t, tx] }) (m : Nat) (z : Value) (hzs : z.cells.size = m) (e : TypeId) (bytes : Nat) (ht : P.underlying t = some (.slice e))
    (hi : (P.info? e).map (fun i => (i.zero, i.size, i.bytes)) = some (some z, m, bytes)) (hby : 0 < bytes)
    (B : Nat) (v : Value) (n : Nat) (xs : List Value) (hs : a.eval s = v) (hr : MRow m e B w v n xs) (u : Value) (k : Nat) (ys : List Value) (hx : a.eval x = u) (hy : Src P m tx u k ys w)
    (hb : (n + k) * bytes ≤ 140737488355328) (hB : B ≤ w.heap.size)
    (h : ∀ v' w', MRow m e B w' v' (n + k) (xs ++ ys) → MGrew e w w' v → K (a.put o.dst v') w') : if Region.wanted o (yielded ops a.tmps) = true then Oper.wp P o a w K Q else E := by
  have hw : Region.wanted o (yielded ops a.tmps) = true := by simp [Region.wanted, hgd]
  rw [if_pos hw]
  obtain ⟨i0, hi0, hz0, hz1, hz2⟩ := info_parts hi
  obtain ⟨v', w', hrun, h2, h3⟩ := run_apm (P := P) w t tx o.type e i0 m z ht hi0 hz0 hz1 hzs (by omega) hr hy (by rw [hz2]; exact hb) hB
  unfold Oper.wp execOp
  simp only [ho, resolve, invoke, builtin, Sem.run_bind, Sem.run_pure, Result.andThen_ok, List.map_toArray, List.map_cons, List.map_nil, hs, hx, hrun]
  exact h v' w' h2 h3
end Go.Proofs.YtillkhjihggcjaaGreatDoor
/-
  Contracts of the library, laid at this program.
-/
namespace Go.Proofs
open Go.Shelf
def Tryz.laysM288_ren : Go.Shelf.Ren := ⟨fun | 288 => 130 | 283 => 143 | 284 => 144 | 285 => 145 | 286 => 146 | 129 => 154 | 317 => 153 | 318 => 155 | 319 => 156 | 320 => 157 | 337 => 162 | 338 => 163 | n => n, fun | 37 => 22 | 53 => 136 | 3 => 3 | 4 => 4 | 9 => 9 | 171 => 215 | 0 => 0 | 173 => 218 | 212 => 224 | 51 => 119 | 5 => 5 | 20 => 20 | 213 => 225 | 46 => 125 | 232 => 234 | 233 => 235 | n => n, fun | 17 => 2 | 18 => 3 | 19 => 4 | n => n⟩
theorem Tryz.laysM288 : Go.Proofs.LaysM.n288 Tryz.prog Tryz.laysM288_ren := {
  mixed := by kernel_rfl
  f129 := Tryz.func154.trans (congrArg some (by kernel_rfl))
  f283 := Tryz.func143.trans (congrArg some (by kernel_rfl))
  f284 := Tryz.func144.trans (congrArg some (by kernel_rfl))
  f285 := Tryz.func145.trans (congrArg some (by kernel_rfl))
  f286 := Tryz.func146.trans (congrArg some (by kernel_rfl))
  f288 := Tryz.func130.trans (congrArg some (by kernel_rfl))
  f317 := Tryz.func153.trans (congrArg some (by kernel_rfl))
  f318 := Tryz.func155.trans (congrArg some (by kernel_rfl))
  f319 := Tryz.func156.trans (congrArg some (by kernel_rfl))
  f320 := Tryz.func157.trans (congrArg some (by kernel_rfl))
  f337 := Tryz.func162.trans (congrArg some (by kernel_rfl))
  f338 := Tryz.func163.trans (congrArg some (by kernel_rfl))
  t0 := Tryz.underlying0
  a0 := Tryz.isAgg0
  z0 := Tryz.sizeOf0
  v0 := Tryz.zeroValue0
  t3 := Tryz.underlying3
  a3 := Tryz.isAgg3
  z3 := Tryz.sizeOf3
  v3 := Tryz.zeroValue3
  t4 := Tryz.underlying4
  a4 := Tryz.isAgg4
  z4 := Tryz.sizeOf4
  v4 := Tryz.zeroValue4
  t5 := Tryz.underlying5
  a5 := Tryz.isAgg5
  z5 := Tryz.sizeOf5
  v5 := Tryz.zeroValue5
  t9 := Tryz.underlying9
  a9 := Tryz.isAgg9
  z9 := Tryz.sizeOf9
  v9 := Tryz.zeroValue9
  t20 := Tryz.underlying20
  a20 := Tryz.isAgg20
  z20 := Tryz.sizeOf20
  v20 := Tryz.zeroValue20
  t37 := Tryz.underlying22
  a37 := Tryz.isAgg22
  z37 := Tryz.sizeOf22
  v37 := Tryz.zeroValue22
  t46 := Tryz.underlying125
  a46 := Tryz.isAgg125
  z46 := Tryz.sizeOf125
  v46 := Tryz.zeroValue125
  t51 := Tryz.underlying119
  a51 := Tryz.isAgg119
  z51 := Tryz.sizeOf119
  v51 := Tryz.zeroValue119
  t53 := Tryz.underlying136
  a53 := Tryz.isAgg136
  z53 := Tryz.sizeOf136
  v53 := Tryz.zeroValue136
  t171 := Tryz.underlying215
  a171 := Tryz.isAgg215
  z171 := Tryz.sizeOf215
  v171 := Tryz.zeroValue215
  t173 := Tryz.underlying218
  a173 := Tryz.isAgg218
  z173 := Tryz.sizeOf218
  v173 := Tryz.zeroValue218
  t212 := Tryz.underlying224
  a212 := Tryz.isAgg224
  z212 := Tryz.sizeOf224
  v212 := Tryz.zeroValue224
  t213 := Tryz.underlying225
  a213 := Tryz.isAgg225
  z213 := Tryz.sizeOf225
  t232 := Tryz.underlying234
  a232 := Tryz.isAgg234
  z232 := Tryz.sizeOf234
  v232 := Tryz.zeroValue234
  t233 := Tryz.underlying235
  a233 := Tryz.isAgg235
  z233 := Tryz.sizeOf235
  v233 := Tryz.zeroValue235
  g17 := by kernel_rfl
  g18 := by kernel_rfl
  g19 := by kernel_rfl
  i0 := by kernel_rfl
  i3 := by kernel_rfl
  i4 := by kernel_rfl
  i5 := by kernel_rfl
  i9 := by kernel_rfl
  i20 := by kernel_rfl
  i37 := by kernel_rfl
  i46 := by kernel_rfl
  i51 := by kernel_rfl
  i53 := by kernel_rfl
  i171 := by kernel_rfl
  i173 := by kernel_rfl
  i212 := by kernel_rfl
  i232 := by kernel_rfl
  i233 := by kernel_rfl
  m17 := by kernel_rfl
  m18 := by kernel_rfl
  m19 := by kernel_rfl }
open Go.RowKit Go.Sort Go.Lib in
/-- internal/strconv.AppendUint(dst, i, 10): the two contracts as one. NO WALK. (LAID: no walk: one application.) -/
theorem Tryz.internal_strconv_AppendUint_10 (B n u : Nat) (hu64 : u < 18446744073709551616) (sv : Value) (xs : List Value) (w : World) (hown : w.ownsRow B 5 1 sv n xs) (hBw : B ≤ w.heap.size) (hlim : n + 20 ≤ 140737488355328) (htab : Lib.TabIs Tryz.prog w "internal/strconv.uint64pow10" .u64 Lib.pow10Tab) :
    Calls Tryz.prog 130 #[sv, .int .u64 u, .int .i64 10] w fun e w' => ∃ v', e = .returned v' ∧ w'.ownsRow B 5 1 v' (n + (Lib.decDigits u).length) (xs ++ Lib.byteCells (Lib.decDigits u)) ∧ Below B w w' ∧ Lib.OthersKept 5 none w w' := Any.internal_strconv_AppendUint_10 Tryz.laysM288 B n u hu64 sv xs w hown hBw hlim htab
end Go.Proofs
/-
  Der: decimal digits of any number appended; an object identifier of any bytes.
-/
namespace Go.Proofs.YtillkhjihggcjaaGreatDoor
open Go.RowKit
abbrev P10 (w : World) : Prop := Lib.TabIs Tryz.prog w "internal/strconv.uint64pow10" .u64 Lib.pow10Tab
theorem Tryz.g_pw : Tryz.prog.globalNamed "internal/strconv.uint64pow10" = some 2 := by kernel_rfl
theorem P10.below {w w' : World} (h : P10 w) (hb : Below w.heap.size w w') : P10 w' := by
  have hc := h.cell Tryz.g_pw 0 (by decide)
  have hlt : 2 < w.heap.size := by
    rcases Nat.lt_or_ge 2 w.heap.size with h' | h'
    · exact h'
    · unfold World.cell? at hc
      rw [Array.getElem?_eq_none h'] at hc
      cases hc
  unfold P10 Lib.TabIs World.var? at *
  rw [Tryz.g_pw] at h ⊢
  rw [← h]
  simp only [Option.bind_some]
  rw [hb.block _ hlt]
/-- The digits of a number, as integers. -/
def decI (u : Nat) : List Int := (Lib.decDigits u).map fun b => (b.toNat : Int)
theorem MRow.own {B : Nat} {w : World} {v : Value} {n : Nat} {xs : List Value} (h : MRow 1 5 B w v n xs) : w.ownsRow B 5 1 v n xs := by
  obtain ⟨h0, h⟩ := h
  refine ⟨h0, ?_⟩
  rcases h with h | ⟨b, S, c, rfl, h1, hA, h2, h3, h4, h5⟩
  · exact .inl h
  · exact .inr ⟨b, c, S.toArray, rfl, h1, hA, h3, h5, by simpa using h2, by simpa using h4⟩
theorem MRow.ofOwn {B : Nat} {w : World} {v : Value} {n : Nat} {xs : List Value} (h : w.ownsRow B 5 1 v n xs) : MRow 1 5 B w v n xs := by
  obtain ⟨h0, h⟩ := h
  refine ⟨h0, ?_⟩
  rcases h with h | ⟨b, c, cur, rfl, h1, hA, h3, h5, h2, h4⟩
  · exact .inl h
  · exact .inr ⟨b, cur.toList, c, rfl, h1, by unfold Blk; simpa using hA, by simpa using h2, h3, h4, h5⟩
theorem decI_cells (u : Nat) : Lib.byteCells (Lib.decDigits u) = (decI u).map (Value.int .u8) := by
  unfold Lib.byteCells decI; rw [List.map_map]; rfl
theorem decI_len (u : Nat) : (decI u).length = (Lib.decDigits u).length := by unfold decI; rw [List.length_map]
set_option maxHeartbeats 1000000 in
theorem AppU_any {w : World} (v : Value) (B u : Nat) (X : List Int) (hX : MRow 1 5 B w v X.length (X.map (Value.int .u8))) (hu : u < 18446744073709551616) (hl : X.length ≤ 1000000) (hB : B ≤ w.heap.size) (hT : P10 w) :
    Calls Tryz.prog 113 #[v, .int .u64 u, .int .i64 10] w fun e w' => ∃ r, e = .returned r ∧ MRow 1 5 B w' r (X ++ decI u).length ((X ++ decI u).map (Value.int .u8)) ∧ Below B w w' := by
  have HC : Hid (Calls Tryz.prog 130 #[v, .int .u64 u, .int .i64 10] w fun e w' => ∃ r, e = .returned r ∧ MRow 1 5 B w' r (X ++ decI u).length ((X ++ decI u).map (Value.int .u8)) ∧ Below B w w') := by
    refine (Tryz.internal_strconv_AppendUint_10 B X.length u hu v _ w hX.own hB (by omega) hT).mono ?_
    rintro e w' ⟨r, rfl, ho, hb, _⟩
    refine ⟨r, rfl, ?_, hb⟩
    have := MRow.ofOwn ho
    rw [decI_cells] at this
    rw [List.length_append, decI_len, List.map_append]
    exact this
  clear hX hT
  go_enter Tryz.func113, Tryz.ntmps113
  go_wp2_with fail
  refine HC.out.mono ?_
  rintro e w1 ⟨r, rfl, hr, hb⟩
  go_wp2
  go_ret
  exact ⟨_, rfl, hr, hb⟩
end Go.Proofs.YtillkhjihggcjaaGreatDoor
