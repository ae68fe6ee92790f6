/-
  Der: the numbers that stand in an object identifier's bytes.
-/
import Derived.Test.YtillkhjihggcjaaGreatDoorK16
namespace Go.Proofs.YtillkhjihggcjaaGreatDoor
open Go.RowKit
/-- The numbers of the first i bytes that have ended, and what is read of the next one. -/
def gst (X : List Int) : Nat → List Nat × Nat
  | 0 => ([], 0)
  | i + 1 => if X.getD i 0 < 128 then ((gst X i).1 ++ [(gst X i).2 * 128 + (X.getD i 0 % 128).toNat], 0) else ((gst X i).1, (gst X i).2 * 128 + (X.getD i 0 % 128).toNat)
/-- Does a number begin at place i? -/
def btw (X : List Int) : Nat → Bool
  | 0 => true
  | i + 1 => decide (X.getD i 0 < 128)
def fine (X : List Int) (i : Nat) : Prop := ∀ j, j < i → ¬ (btw X j = true ∧ X.getD j 0 = 128)
def capN (c v : Nat) : Int := ((min v c : Nat) : Int)
def capL (c : Nat) (A : List Nat) : List Int := A.map (capN c)
def arcsOk (X : List Int) : Bool := btw X X.length && decide (0 < (gst X X.length).1.length)
theorem gst_lo {X : List Int} {i : Nat} {x : Int} (hx : X.getD i 0 = x) (h : x < 128) : gst X (i + 1) = ((gst X i).1 ++ [(gst X i).2 * 128 + (x % 128).toNat], 0) := by
  show (if X.getD i 0 < 128 then _ else _) = _; rw [hx, if_pos h]
theorem gst_hi {X : List Int} {i : Nat} {x : Int} (hx : X.getD i 0 = x) (h : ¬ x < 128) : gst X (i + 1) = ((gst X i).1, (gst X i).2 * 128 + (x % 128).toNat) := by
  show (if X.getD i 0 < 128 then _ else _) = _; rw [hx, if_neg h]
theorem gst_len (X : List Int) : ∀ i, (gst X i).1.length ≤ i
  | 0 => by simp [gst]
  | i + 1 => by
    have := gst_len X i
    by_cases h : X.getD i 0 < 128
    · rw [gst_lo rfl h]; simp; omega
    · rw [gst_hi rfl h]; show (gst X i).1.length ≤ _; omega
theorem or_u64 (s : Nat) (x y : Int) (hx0 : 0 ≤ x) (hx : x * 2 ^ s < 18446744073709551616) (hy0 : 0 ≤ y) (hy : y < 2 ^ s) (hs : s ≤ 32) : bits .or .u64 (x * 2 ^ s) y = x * 2 ^ s + y := by
  obtain ⟨a, rfl⟩ := Int.eq_ofNat_of_zero_le hx0
  obtain ⟨b, rfl⟩ := Int.eq_ofNat_of_zero_le hy0
  have e : ((a * 2 ^ s : Nat) : Int) = (a : Int) * 2 ^ s := by simp
  have hb : b < 2 ^ s := by
    have : ((b : Nat) : Int) < ((2 ^ s : Nat) : Int) := by rw [Int.natCast_pow]; exact hy
    exact Int.ofNat_lt.1 this
  have ha : a * 2 ^ s < 2 ^ 64 := by
    have : ((a * 2 ^ s : Nat) : Int) < ((2 ^ 64 : Nat) : Int) := by rw [e]; exact hx
    exact Int.ofNat_lt.1 this
  have hb2 : b < 2 ^ 64 := Nat.lt_of_lt_of_le hb (Nat.pow_le_pow_right (by decide) (by omega))
  have h := (bits_nat .u64 64 (by decide) (fun n h₀ h₁ => by rw [IntKind.wrap_u64]; omega) (a * 2 ^ s) b ha hb2).2
  rw [e] at h
  rw [h, Nat.mul_comm a, ← Nat.two_pow_add_eq_or_of_lt hb a, Nat.mul_comm, Int.natCast_add, e]
def LaidAns (X : List Int) (B : Nat) (w : World) (e : Ending) : Prop :=
  (fine X X.length ∧ ∃ r, e = .returned (.tuple #[r, .bool (arcsOk X)]) ∧ Row .u64 136 B w r (capL 2147483728 (gst X X.length).1)) ∨ (¬ fine X X.length ∧ e = .returned (.tuple #[.slice none 0 0, .bool false]))
set_option maxRecDepth 20000 in
set_option maxHeartbeats 4000000 in
theorem laidArcs_any {w : World} (v : Value) (X : List Int) (hX : Sl .u8 w v X) (uX : U8s X) (hl : X.length ≤ 6000) :
    Calls Tryz.prog 111 #[v] w fun e w' => LaidAns X w.heap.size w' e ∧ Below w.heap.size w w' := by
  obtain ⟨a, c, rfl, hc, hx⟩ := hX
  obtain ⟨n, hn⟩ : ∃ n, X.length = n := ⟨_, rfl⟩
  have HX : Hid (U8s X ∧ X.length = n ∧ (X = [] ∨ ∃ b off, a = some ⟨b, off, none⟩ ∧ b < w.heap.size ∧ Rd .u8 w b off X)) := ⟨uX, hn, hx⟩
  rw [hn] at hl hc ⊢
  have hlI : (n : Int) ≤ 6000 := by omega
  clear uX hx hn
  go_enter Tryz.func111, Tryz.ntmps111
  go_wp2_with fail
  go_loopw [2, 4, 5, 10] (fun lv nv bv iv wr => ∃ (i : Nat) (l0 : Value) (t : Int) (z : Bool), l0 = lv ∧ nv = .int .u64 t ∧ bv = .bool z ∧ iv = .int .i64 i ∧ i ≤ n ∧ t = capN 2147483728 (gst X i).2 ∧ z = btw X i ∧ fine X i ∧ Row .u64 136 w.heap.size wr l0 (capL 2147483728 (gst X i).1) ∧ Below w.heap.size w wr) (fun _ _ _ iv _ => n - (intOf iv).toNat)
  case atStart => exact ⟨0, _, 0, true, rfl, rfl, rfl, rfl, by omega, rfl, rfl, fun j hj => by omega, Row.nil _ _ _ _, Below.refl _ _⟩
  case round =>
    obtain ⟨i, l0, t, z, rfl, rfl, rfl, rfl, hi, ht, hz, hf, hr, hb⟩ := hrel
    have H1 : Hid (t = capN 2147483728 (gst X i).2 ∧ z = btw X i ∧ fine X i ∧ Row .u64 136 w.heap.size wr l0 (capL 2147483728 (gst X i).1) ∧ Below w.heap.size w wr) := ⟨ht, hz, hf, hr, hb⟩
    have t0 : 0 ≤ t := by rw [ht]; unfold capN; omega
    have t1 : t ≤ 2147483728 := by rw [ht]; unfold capN; omega
    clear ht hz hf hr hb
    by_cases hlt : i < n
    · have l1 : (i : Int) < (n : Int) := by omega
      obtain ⟨b, off, hab, hbw, hrd⟩ : ∃ b off, a = some ⟨b, off, none⟩ ∧ b < w.heap.size ∧ Rd .u8 w b off X := by
        rcases HX.out.2.2 with h | h
        · have := HX.out.2.1; rw [h] at this; simp at this; omega
        · exact h
      subst hab
      obtain ⟨x, hx⟩ : ∃ x, X.getD i 0 = x := ⟨_, rfl⟩
      have hxu := HX.out.1.at i
      rw [hx] at hxu
      have x0 := hxu.1
      have x1 := hxu.2
      have cx : wr.cell? ⟨b, off + i, none⟩ = some (.int .u8 x) := by rw [below_rd H1.out.2.2.2.2 hbw hrd i (by have := HX.out.2.1; omega), hx]
      have e1 := and_127 x hxu
      obtain ⟨y, hy⟩ : ∃ y, x % 128 = y := ⟨_, rfl⟩
      rw [hy] at e1
      have y0 : 0 ≤ y := by omega
      have y1 : y ≤ 127 := by omega
      have e2 := or_u64 7 t y t0 (by omega) y0 (by omega) (by decide)
      rw [show t * 2 ^ 7 = t * 128 from rfl] at e2
      obtain ⟨t2, ht2⟩ : ∃ t2, t * 128 + y = t2 := ⟨_, rfl⟩
      rw [ht2] at e2
      have t20 : 0 ≤ t2 := by omega
      have t21 : t2 ≤ 274877917311 := by omega
      have HC : Hid (min t2 2147483728 = capN 2147483728 ((gst X i).2 * 128 + (x % 128).toNat)) := by
        show _ = _
        have h1 := H1.out.1
        unfold capN at h1 ⊢
        omega
      have HXx : Hid (X.getD i 0 = x) := hx
      clear hx hxu hrd ht2 hy
      by_cases hbad : z = true ∧ x = 128
      · obtain ⟨rfl, rfl⟩ := hbad
        go_wp2
        go_ret2
        refine ⟨.inr ⟨fun h => ?_, rfl⟩, H1.out.2.2.2.2⟩
        exact h i (by have := HX.out.2.1; omega) ⟨H1.out.2.1.symm, HXx.out⟩
      have HF : Hid (fine X (i + 1)) := by
        intro j hj
        by_cases hji : j = i
        · subst hji; rw [HXx.out, ← H1.out.2.1]; exact hbad
        · exact H1.out.2.2.1 j (by omega)
      have hzx : z = false ∨ (z = true ∧ (x == 128) = false) := by
        cases z with
        | false => exact .inl rfl
        | true => right; refine ⟨rfl, ?_⟩; simp; intro h; exact hbad ⟨rfl, h⟩
      obtain ⟨m, hm⟩ : ∃ m, min t2 2147483728 = m := ⟨_, rfl⟩
      have HM : Hid (m = capN 2147483728 ((gst X i).2 * 128 + (x % 128).toNat)) := by show _ = _; rw [← hm]; exact HC.out
      have m0 : 0 ≤ m := by omega
      have m1 : m ≤ 2147483728 := by omega
      have hmc : (t2 ≤ 2147483728 ∧ m = t2) ∨ (¬ t2 ≤ 2147483728 ∧ m = 2147483728) := by omega
      clear hbad hm
      by_cases hlo : x < 128
      · have HG := gst_lo HXx.out hlo
        have HGm : Hid (capL 2147483728 (gst X (i + 1)).1 = capL 2147483728 (gst X i).1 ++ [m] ∧ (gst X (i + 1)).2 = 0 ∧ btw X (i + 1) = true) := by
          refine ⟨?_, by rw [HG], ?_⟩
          · rw [HG]; unfold capL; rw [List.map_append, HM.out]; rfl
          · show decide (X.getD i 0 < 128) = true; rw [HXx.out]; simpa using hlo
        clear HG
        have hlen : (capL 2147483728 (gst X i).1).length ≤ 6000 := by unfold capL; rw [List.length_map]; have := gst_len X i; omega
        rcases hzx with rfl | ⟨rfl, hx128⟩ <;> rcases hmc with ⟨hq, rfl⟩ | ⟨hq, rfl⟩
        all_goals
          go_wp2_with (at_builtin; refine wpList_ap rfl (.tmp 29) (.tmp 31) 148 148 rfl .u64 136 8 Tryz.und64 Tryz.info64 (by decide) w.heap.size _ (capL 2147483728 (gst X i).1) rfl (H1.out.2.2.2.1.alloc _) _ [_] rfl (src_sl Tryz.und64 (new_sl (k := .u64) [_] (0, 0))) (by simp; omega) (by have := H1.out.2.2.2.2.size; simp; omega) ?_; intro v2 w2 hr2 hg2)
          have H2 : Hid (Row .u64 136 w.heap.size w2 v2 (capL 2147483728 (gst X (i + 1)).1) ∧ Below w.heap.size w w2) := ⟨by rw [HGm.out.1]; exact hr2, (al2' H1.out.2.2.2.2).trans (hg2.below (H1.out.2.2.2.1.alloc _) (by have := H1.out.2.2.2.2.size; simp; omega))⟩
          clear hr2 hg2
          go_roundw
          case rel => exact ⟨i + 1, _, 0, true, rfl, rfl, rfl, by go_num, by omega, by rw [HGm.out.2.1]; rfl, HGm.out.2.2.symm, HF.out, H2.out.1, H2.out.2⟩
          case measure => simp [intOf]; omega
      · have HG := gst_hi HXx.out hlo
        have HGm : Hid ((gst X (i + 1)).1 = (gst X i).1 ∧ m = capN 2147483728 (gst X (i + 1)).2 ∧ btw X (i + 1) = false) := by
          refine ⟨by rw [HG], ?_, ?_⟩
          · rw [HG]; exact HM.out
          · show decide (X.getD i 0 < 128) = false; rw [HXx.out]; simpa using hlo
        clear HG
        rcases hzx with rfl | ⟨rfl, hx128⟩ <;> rcases hmc with ⟨hq, rfl⟩ | ⟨hq, rfl⟩
        all_goals
          go_wp2
          go_roundw
          case rel => exact ⟨i + 1, _, _, false, rfl, rfl, rfl, by go_num, by omega, HGm.out.2.1, HGm.out.2.2.symm, HF.out, by rw [HGm.out.1]; exact H1.out.2.2.2.1, H1.out.2.2.2.2⟩
          case measure => simp [intOf]; omega
    · obtain rfl : i = n := by omega
      have l1 : ¬ (i : Int) < (i : Int) := by omega
      obtain ⟨al, cl, hv⟩ := H1.out.2.2.2.1.ne
      obtain ⟨k, hk⟩ : ∃ k, (capL 2147483728 (gst X i).1).length = k := ⟨_, rfl⟩
      rw [hk] at hv
      subst hv
      have HK : Hid (arcsOk X = (z && decide (0 < k))) := by
        show _ = _
        unfold arcsOk
        rw [HX.out.2.1, ← H1.out.2.1, ← hk]
        unfold capL
        rw [List.length_map]
      clear hk
      obtain ⟨K, hK⟩ : ∃ K, arcsOk X = K := ⟨_, rfl⟩
      have HKK : Hid (arcsOk X = K) := hK
      rw [hK] at HK
      clear hK
      have fin : Hid (∀ W, W = wr → ∀ e, e = .returned (.tuple #[.slice al k cl, .bool K]) → LaidAns X w.heap.size W e ∧ Below w.heap.size w W) := by
        rintro W rfl e rfl
        refine ⟨.inl ⟨?_, _, by rw [HKK.out], ?_⟩, H1.out.2.2.2.2⟩
        · rw [HX.out.2.1]; exact H1.out.2.2.1
        · rw [HX.out.2.1]; exact H1.out.2.2.2.1
      by_cases hz : z = true
      · subst hz
        have hKt : K = decide (0 < k) := by rw [HK.out]; simp
        go_wp2
        go_ret2
        exact fin.out _ rfl _ (by rw [hKt]; rfl)
      · have hz' : z = false := by simpa using hz
        subst hz'
        have hKt : K = false := by rw [HK.out]; rfl
        go_wp2
        go_ret2
        exact fin.out _ rfl _ (by rw [hKt]; rfl)
end Go.Proofs.YtillkhjihggcjaaGreatDoor
/-
  Der: the greatest of a row of numbers.
-/
namespace Go.Proofs.YtillkhjihggcjaaGreatDoor
open Go.RowKit
/-- The greatest of the first i numbers (of a row that has one). -/
def mxN (X : List Int) : Nat → Int
  | 0 => X.getD 0 0
  | i + 1 => max (mxN X i) (X.getD i 0)
def U64s (X : List Int) : Prop := ∀ x ∈ X, 0 ≤ x ∧ x < 18446744073709551616
theorem U64s.at {X : List Int} (h : U64s X) (i : Nat) : 0 ≤ X.getD i 0 ∧ X.getD i 0 < 18446744073709551616 := by
  by_cases hi : i < X.length
  · simp [hi]; exact h _ (List.getElem_mem hi)
  · simp [List.getD, List.getElem?_eq_none (Nat.le_of_not_lt hi)]
theorem mxN_bd {X : List Int} (h : U64s X) : ∀ i, 0 ≤ mxN X i ∧ mxN X i < 18446744073709551616
  | 0 => h.at 0
  | i + 1 => by
    have h1 := mxN_bd h i
    have h2 := h.at i
    show 0 ≤ max (mxN X i) (X.getD i 0) ∧ max (mxN X i) (X.getD i 0) < _
    omega
theorem mxN_gt {X : List Int} (c : Int) : ∀ i, 0 < i → (c < mxN X i ↔ ∃ j, j < i ∧ c < X.getD j 0) := by
  intro i
  induction i with
  | zero => intro h; omega
  | succ i ih =>
    intro _
    show c < max (mxN X i) (X.getD i 0) ↔ _
    by_cases hi : i = 0
    · subst hi
      show c < max (X.getD 0 0) (X.getD 0 0) ↔ _
      constructor
      · intro h; exact ⟨0, by omega, by omega⟩
      · rintro ⟨j, hj, h⟩
        obtain rfl : j = 0 := by omega
        omega
    · have h1 := ih (by omega)
      constructor
      · intro h
        by_cases h2 : c < X.getD i 0
        · exact ⟨i, by omega, h2⟩
        · obtain ⟨j, hj, h3⟩ := h1.1 (by omega)
          exact ⟨j, by omega, h3⟩
      · rintro ⟨j, hj, h⟩
        by_cases hji : j = i
        · subst hji; omega
        · have := h1.2 ⟨j, by omega, h⟩; omega
set_option maxRecDepth 20000 in
set_option maxHeartbeats 4000000 in
theorem Max_any {w : World} (b c n : Nat) (X : List Int) (hr : Rd .u64 w b 0 X) (hn : X.length = n) (h0 : 0 < n) (hl : n ≤ 9000) (hu : U64s X) :
    Calls Tryz.prog 112 #[.slice (some ⟨b, 0, none⟩) n c] w fun e w' => e = .returned (.int .u64 (mxN X n)) ∧ w = w' := by
  have HX : Hid (Rd .u64 w b 0 X ∧ X.length = n ∧ U64s X) := ⟨hr, hn, hu⟩
  obtain ⟨x, hx⟩ : ∃ x, X.getD 0 0 = x := ⟨_, rfl⟩
  have c0 : w.cell? ⟨b, 0, none⟩ = some (.int .u64 x) := by have := hr 0 (by omega); rw [hx] at this; exact this
  have HX0 : Hid (mxN X 1 = x) := by show max (X.getD 0 0) (X.getD 0 0) = _; rw [hx]; omega
  clear hr hn hu hx
  have nI : (1 : Int) ≤ (n : Int) := by omega
  have nI2 : (n : Int) ≤ 9000 := by omega
  go_enter Tryz.func112, Tryz.ntmps112
  go_wp2_with fail
  go_loopw [3, 4] (fun mv iv wr => ∃ (i : Nat) (t : Int), mv = .int .u64 t ∧ iv = .int .i64 i ∧ 1 ≤ i ∧ i ≤ n ∧ mxN X i = t ∧ w = wr) (fun _ iv _ => n - (intOf iv).toNat)
  case atStart => exact ⟨1, x, rfl, rfl, by omega, by omega, HX0.out, rfl⟩
  case round =>
    obtain ⟨i, t, rfl, rfl, hi1, hi, ht, rfl⟩ := hrel
    by_cases hlt : i < n
    · have l1 : (i : Int) < (n : Int) := by omega
      obtain ⟨y, hy⟩ : ∃ y, X.getD i 0 = y := ⟨_, rfl⟩
      have cy : w.cell? ⟨b, i, none⟩ = some (.int .u64 y) := by have := HX.out.1 i (by have := HX.out.2.1; omega); rw [hy, Nat.zero_add] at this; exact this
      have hm : mxN X (i + 1) = max t y := by show max (mxN X i) (X.getD i 0) = _; rw [ht, hy]
      have HM : Hid (mxN X (i + 1) = max t y) := hm
      clear ht hy hm c0
      go_wp2
      go_roundw
      case rel => exact ⟨i + 1, _, rfl, by go_num, by omega, by omega, by rw [HM.out]; split <;> omega, trivial⟩
      case measure => simp [intOf]; omega
    · obtain rfl : i = n := by omega
      have l1 : ¬ (i : Int) < (i : Int) := by omega
      have HT : Hid (mxN X i = t) := ht
      clear ht c0
      go_wp2
      go_ret
      exact ⟨by rw [HT.out]; rfl, rfl⟩
end Go.Proofs.YtillkhjihggcjaaGreatDoor
/-
  Der: yes or no; are bytes a number's?
-/
namespace Go.Proofs.YtillkhjihggcjaaGreatDoor
open Go.RowKit
/-- Are these bytes a number's? -/
def intOk (X : List Int) : Bool := if X.length < 2 then decide (X.length = 1) else !((decide (X.getD 0 0 = 0) && decide (X.getD 1 0 < 128)) || (decide (X.getD 0 0 = 255) && decide (128 ≤ X.getD 1 0)))
theorem int_cases {w : World} {v : Value} {X : List Int} (hX : Sl .u8 w v X) (uX : U8s X) (hl : X.length ≤ 16384) : (∃ a n c, v = .slice a n c ∧ X.length = n ∧ n < 2) ∨ ∃ b off n c x y, v = .slice (some ⟨b, off, none⟩) n c ∧ X.length = n ∧ 2 ≤ n ∧ n ≤ c ∧ n ≤ 16384 ∧ X.getD 0 0 = x ∧ X.getD 1 0 = y ∧ U8 x ∧ U8 y ∧ w.cell? ⟨b, off, none⟩ = some (.int .u8 x) ∧ w.cell? ⟨b, off + 1, none⟩ = some (.int .u8 y) := by
  obtain ⟨a, c, rfl, hc, hx⟩ := hX
  by_cases h : X.length < 2
  · exact .inl ⟨a, _, c, rfl, rfl, h⟩
  · right
    rcases hx with hx | ⟨b, off, rfl, hb, hr⟩
    · rw [hx] at h; simp at h
    · exact ⟨b, off, _, c, _, _, rfl, rfl, by omega, hc, hl, rfl, rfl, uX.at 0, uX.at 1, hr 0 (by omega), hr 1 (by omega)⟩
set_option maxHeartbeats 2000000 in
theorem isInt_any {w : World} (v : Value) (X : List Int) (hX : Sl .u8 w v X) (uX : U8s X) (hl : X.length ≤ 16384) :
    Calls Tryz.prog 117 #[v] w fun e w' => e = .returned (.bool (intOk X)) ∧ w = w' := by
  rcases int_cases hX uX hl with ⟨a, n, c, rfl, hn, h1⟩ | ⟨b, off, n, c, x, y, rfl, hn, h2, hc, hn4, ex, ey, ⟨u0, u1⟩, ⟨y0, y1⟩, c0, c1⟩
  · have HV : Hid (intOk X = decide (n = 1)) := by
      show intOk X = _
      unfold intOk; rw [hn, if_pos h1]
    have hI : (n : Int) < 2 := by omega
    clear hX uX hn
    by_cases h : n = 1
    · subst h
      clear h1 hI
      go_enter Tryz.func117, Tryz.ntmps117
      go_wp2
      go_ret
      exact ⟨by rw [HV.out]; rfl, rfl⟩
    · have h0 : n = 0 := by omega
      subst h0
      clear h1 hI h
      go_enter Tryz.func117, Tryz.ntmps117
      go_wp2
      go_ret
      exact ⟨by rw [HV.out]; rfl, rfl⟩
  · have HV : Hid (intOk X = !((decide (x = 0) && decide (y < 128)) || (decide (x = 255) && decide (128 ≤ y)))) := by
      show intOk X = _
      unfold intOk; rw [hn, if_neg (by omega), ex, ey]
    have hI : (2 : Int) ≤ (n : Int) := by omega
    have hI1 : (1 : Int) < (n : Int) := by omega
    have hI2 : ¬ (n : Int) < 2 := by omega
    have hI3 : ((n : Int) == 1) = false := by simp; omega
    clear hX uX hn ex ey
    by_cases hy : y < 128
    · have q1 : decide (128 ≤ y) = false := by simp; omega
      have q2 : decide (y < 128) = true := by simp; omega
      have q3 : ¬ 128 ≤ y := by omega
      by_cases hx0 : x = 0
      · subst hx0
        have HW : Hid (intOk X = false) := by show _ = _; rw [HV.out]; simp; omega
        go_enter Tryz.func117, Tryz.ntmps117
        go_wp2
        all_goals go_ret
        all_goals exact ⟨by rw [HW.out]; rfl, rfl⟩
      by_cases hx1 : x = 255
      · subst hx1
        have HW : Hid (intOk X = true) := by show _ = _; rw [HV.out]; simp; omega
        clear hx0
        go_enter Tryz.func117, Tryz.ntmps117
        go_wp2
        all_goals go_ret
        all_goals exact ⟨by rw [HW.out]; rfl, rfl⟩
      · have HW : Hid (intOk X = true) := by show _ = _; rw [HV.out, decide_eq_false hx0, decide_eq_false hx1]; rfl
        have b0 : (x == 0) = false := by simpa using hx0
        have b1 : (x == 255) = false := by simpa using hx1
        clear hx0 hx1
        go_enter Tryz.func117, Tryz.ntmps117
        go_wp2
        all_goals go_ret
        all_goals exact ⟨by rw [HW.out]; rfl, rfl⟩
    · have q1 : decide (128 ≤ y) = true := by simp; omega
      have q2 : decide (y < 128) = false := by simp; omega
      have q3 : 128 ≤ y := by omega
      by_cases hx0 : x = 0
      · subst hx0
        have HW : Hid (intOk X = true) := by show _ = _; rw [HV.out]; simp; omega
        go_enter Tryz.func117, Tryz.ntmps117
        go_wp2
        all_goals go_ret
        all_goals exact ⟨by rw [HW.out]; rfl, rfl⟩
      by_cases hx1 : x = 255
      · subst hx1
        have HW : Hid (intOk X = false) := by show _ = _; rw [HV.out]; simp; omega
        clear hx0
        go_enter Tryz.func117, Tryz.ntmps117
        go_wp2
        all_goals go_ret
        all_goals exact ⟨by rw [HW.out]; rfl, rfl⟩
      · have HW : Hid (intOk X = true) := by show _ = _; rw [HV.out, decide_eq_false hx0, decide_eq_false hx1]; rfl
        have b0 : (x == 0) = false := by simpa using hx0
        have b1 : (x == 255) = false := by simpa using hx1
        clear hx0 hx1
        go_enter Tryz.func117, Tryz.ntmps117
        go_wp2
        all_goals go_ret
        all_goals exact ⟨by rw [HW.out]; rfl, rfl⟩
set_option maxHeartbeats 2000000 in
theorem whole_any {w : World} (v : Value) (X : List Int) (hX : Sl .u8 w v X) (uX : U8s X) (hl : X.length ≤ 16384) :
    Calls Tryz.prog 60 #[v] w fun e w' => e = .returned (.bool (intOk X)) ∧ w = w' := by
  rcases int_cases hX uX hl with ⟨a, n, c, rfl, hn, h1⟩ | ⟨b, off, n, c, x, y, rfl, hn, h2, hc, hn4, ex, ey, ⟨u0, u1⟩, ⟨y0, y1⟩, c0, c1⟩
  · have HV : Hid (intOk X = decide (n = 1)) := by
      show intOk X = _
      unfold intOk; rw [hn, if_pos h1]
    have hI : (n : Int) < 2 := by omega
    clear hX uX hn
    by_cases h : n = 1
    · subst h
      clear h1 hI
      go_enter Tryz.func60, Tryz.ntmps60
      go_wp2
      go_ret
      exact ⟨by rw [HV.out]; rfl, rfl⟩
    · have h0 : n = 0 := by omega
      subst h0
      clear h1 hI h
      go_enter Tryz.func60, Tryz.ntmps60
      go_wp2
      go_ret
      exact ⟨by rw [HV.out]; rfl, rfl⟩
  · have HV : Hid (intOk X = !((decide (x = 0) && decide (y < 128)) || (decide (x = 255) && decide (128 ≤ y)))) := by
      show intOk X = _
      unfold intOk; rw [hn, if_neg (by omega), ex, ey]
    have hI : (2 : Int) ≤ (n : Int) := by omega
    have hI1 : (1 : Int) < (n : Int) := by omega
    have hI2 : ¬ (n : Int) < 2 := by omega
    have hI3 : ((n : Int) == 1) = false := by simp; omega
    clear hX uX hn ex ey
    by_cases hy : y < 128
    · have q1 : decide (128 ≤ y) = false := by simp; omega
      have q2 : decide (y < 128) = true := by simp; omega
      have q3 : ¬ 128 ≤ y := by omega
      by_cases hx0 : x = 0
      · subst hx0
        have HW : Hid (intOk X = false) := by show _ = _; rw [HV.out]; simp; omega
        go_enter Tryz.func60, Tryz.ntmps60
        go_wp2
        all_goals go_ret
        all_goals exact ⟨by rw [HW.out]; rfl, rfl⟩
      by_cases hx1 : x = 255
      · subst hx1
        have HW : Hid (intOk X = true) := by show _ = _; rw [HV.out]; simp; omega
        clear hx0
        go_enter Tryz.func60, Tryz.ntmps60
        go_wp2
        all_goals go_ret
        all_goals exact ⟨by rw [HW.out]; rfl, rfl⟩
      · have HW : Hid (intOk X = true) := by show _ = _; rw [HV.out, decide_eq_false hx0, decide_eq_false hx1]; rfl
        have b0 : (x == 0) = false := by simpa using hx0
        have b1 : (x == 255) = false := by simpa using hx1
        clear hx0 hx1
        go_enter Tryz.func60, Tryz.ntmps60
        go_wp2
        all_goals go_ret
        all_goals exact ⟨by rw [HW.out]; rfl, rfl⟩
    · have q1 : decide (128 ≤ y) = true := by simp; omega
      have q2 : decide (y < 128) = false := by simp; omega
      have q3 : 128 ≤ y := by omega
      by_cases hx0 : x = 0
      · subst hx0
        have HW : Hid (intOk X = true) := by show _ = _; rw [HV.out]; simp; omega
        go_enter Tryz.func60, Tryz.ntmps60
        go_wp2
        all_goals go_ret
        all_goals exact ⟨by rw [HW.out]; rfl, rfl⟩
      by_cases hx1 : x = 255
      · subst hx1
        have HW : Hid (intOk X = false) := by show _ = _; rw [HV.out]; simp; omega
        clear hx0
        go_enter Tryz.func60, Tryz.ntmps60
        go_wp2
        all_goals go_ret
        all_goals exact ⟨by rw [HW.out]; rfl, rfl⟩
      · have HW : Hid (intOk X = true) := by show _ = _; rw [HV.out, decide_eq_false hx0, decide_eq_false hx1]; rfl
        have b0 : (x == 0) = false := by simpa using hx0
        have b1 : (x == 255) = false := by simpa using hx1
        clear hx0 hx1
        go_enter Tryz.func60, Tryz.ntmps60
        go_wp2
        all_goals go_ret
        all_goals exact ⟨by rw [HW.out]; rfl, rfl⟩
end Go.Proofs.YtillkhjihggcjaaGreatDoor
/-
  Der: any bytes as a small number.
-/
namespace Go.Proofs.YtillkhjihggcjaaGreatDoor
open Go.RowKit
/-- The number of the first i bytes, the first bit being its sign. -/
def iv (X : List Int) : Nat → Int
  | 0 => if 128 ≤ X.getD 0 0 then -1 else 0
  | i + 1 => 256 * iv X i + X.getD i 0
theorem iv_bd {X : List Int} (hU : U8s X) : ∀ i, -(128 * ((256 ^ i : Nat) : Int)) ≤ iv X (i + 1) ∧ iv X (i + 1) < 128 * ((256 ^ i : Nat) : Int)
  | 0 => by
    have h := hU.at 0
    unfold U8 at h
    show -(128 * ((1 : Nat) : Int)) ≤ 256 * (if 128 ≤ X.getD 0 0 then -1 else 0) + X.getD 0 0 ∧ 256 * (if 128 ≤ X.getD 0 0 then -1 else 0) + X.getD 0 0 < 128 * ((1 : Nat) : Int)
    split <;> omega
  | i + 1 => by
    have h := hU.at (i + 1)
    unfold U8 at h
    have h2 := iv_bd hU i
    rw [Nat.pow_succ]
    obtain ⟨P, hP⟩ : ∃ P, 256 ^ i = P := ⟨_, rfl⟩
    rw [hP] at h2 ⊢
    show _ ≤ 256 * iv X (i + 1) + X.getD (i + 1) 0 ∧ 256 * iv X (i + 1) + X.getD (i + 1) 0 < _
    omega
theorem iv_small {X : List Int} (hU : U8s X) (i : Nat) (hi : i ≤ 6) : -36028797018963968 ≤ iv X (i + 1) ∧ iv X (i + 1) < 36028797018963968 := by
  have h := iv_bd hU i
  have h2 : 256 ^ i ≤ 256 ^ 6 := Nat.pow_le_pow_right (by decide) hi
  omega
theorem or_s64 (t x : Int) (h0 : -36028797018963968 ≤ t) (h1 : t < 36028797018963968) (x0 : 0 ≤ x) (x1 : x < 256) : bits .or .i64 (t * 256) x = t * 256 + x := by
  obtain ⟨b, rfl⟩ := Int.eq_ofNat_of_zero_le x0
  obtain ⟨m, hm⟩ : ∃ m : Nat, (m : Int) = t % 72057594037927936 := ⟨(t % 72057594037927936).toNat, by omega⟩
  have e1 : (BitVec.ofInt 64 (t * 256)).toNat = m * 256 := by
    rw [BitVec.toNat_ofInt]
    have : t * 256 % ((2 ^ 64 : Nat) : Int) = ((m * 256 : Nat) : Int) := by
      have : ((2 ^ 64 : Nat) : Int) = 18446744073709551616 := by decide
      rw [this]; omega
    rw [this]; rfl
  have e2 : (BitVec.ofInt 64 ((b : Nat) : Int)).toNat = b := by
    rw [BitVec.ofInt_natCast, BitVec.toNat_ofNat]
    exact Nat.mod_eq_of_lt (by omega)
  have hb : b < 2 ^ 8 := by omega
  show IntKind.i64.wrap ((BitVec.ofInt 64 (t * 256) ||| BitVec.ofInt 64 ((b : Nat) : Int)).toNat : Int) = _
  rw [BitVec.toNat_or, e1, e2, show m * 256 = 2 ^ 8 * m by omega, ← Nat.two_pow_add_eq_or_of_lt hb m, IntKind.wrap_i64]
  have : ((2 ^ 8 * m + b : Nat) : Int) = 256 * (m : Int) + b := by omega
  rw [this]
  omega
theorem wrap_i8 (x : Int) : IntKind.i8.wrap x = (x + 128) % 256 - 128 := by
  simp [IntKind.wrap, IntKind.bits, IntKind.signed]
  omega
def intV (X : List Int) : Int := if intOk X = true ∧ X.length ≤ 8 then iv X X.length else 0
def intE (X : List Int) : Int := if intOk X = false then 6 else if 8 < X.length then 3 else 0
theorem intOk_ne {X : List Int} (h : intOk X = true) : 1 ≤ X.length := by
  cases X with
  | nil => simp [intOk] at h
  | cons x X => simp
set_option maxRecDepth 20000 in
set_option maxHeartbeats 4000000 in
theorem Int_any {w : World} (v : Value) (X : List Int) (hX : Sl .u8 w v X) (uX : U8s X) (hl : X.length ≤ 16384) :
    Calls Tryz.prog 114 #[v] w fun e w' => e = .returned (.tuple #[.int .i64 (intV X), .int .i64 (intE X)]) ∧ w = w' := by
  have HI : Hid (Calls Tryz.prog 117 #[v] w fun e w' => e = .returned (.bool (intOk X)) ∧ w = w') := isInt_any v X hX uX hl
  obtain ⟨a, c, rfl, hc, hx⟩ := hX
  obtain ⟨n, hn⟩ : ∃ n, X.length = n := ⟨_, rfl⟩
  rw [hn] at HI hc ⊢
  cases hok : intOk X with
  | false =>
    have HV : Hid (intV X = 0 ∧ intE X = 6) := ⟨by unfold intV; rw [hok]; simp, by unfold intE; rw [hok]; simp⟩
    rw [hok] at HI
    clear hx hok
    go_enter Tryz.func114, Tryz.ntmps114
    go_wp2_with fail
    refine HI.out.mono ?_
    rintro e w1 ⟨rfl, rfl⟩
    go_wp2
    go_ret2
    exact ⟨by rw [HV.out.1, HV.out.2]; rfl, rfl⟩
  | true =>
    have hne := intOk_ne hok
    rw [hok] at HI
    rcases hx with hx | ⟨b, off, rfl, hb, hr⟩
    · rw [hx] at hne; simp at hne
    by_cases hbig : 8 < n
    · have HV : Hid (intV X = 0 ∧ intE X = 3) := ⟨by unfold intV; rw [if_neg (fun h => by have := h.2; omega)], by unfold intE; rw [hok, hn]; simp [hbig]⟩
      have hbI : (8 : Int) < (n : Int) := by omega
      clear hr hok
      go_enter Tryz.func114, Tryz.ntmps114
      go_wp2_with fail
      refine HI.out.mono ?_
      rintro e w1 ⟨rfl, rfl⟩
      go_wp2
      go_ret2
      exact ⟨by rw [HV.out.1, HV.out.2]; rfl, rfl⟩
    · have HV : Hid (intV X = iv X n ∧ intE X = 0) := ⟨by unfold intV; rw [if_pos ⟨hok, by omega⟩, hn], by unfold intE; rw [hok, hn]; simp [hbig]⟩
      have hbI : ¬ (8 : Int) < (n : Int) := by omega
      rw [hn] at hne
      have hneI : (1 : Int) ≤ (n : Int) := by omega
      have hneI2 : (0 : Int) < (n : Int) := by omega
      obtain ⟨x, hx⟩ : ∃ x, X.getD 0 0 = x := ⟨_, rfl⟩
      have cx : w.cell? ⟨b, off, none⟩ = some (.int .u8 x) := by have := hr 0 (by omega); rw [hx] at this; exact this
      have ux := uX.at 0
      rw [hx] at ux
      obtain ⟨x0, x1⟩ := ux
      obtain ⟨t0, ht0⟩ : ∃ t0, iv X 1 = t0 := ⟨_, rfl⟩
      have hsm := iv_small uX 0 (by omega)
      rw [ht0] at hsm
      have e8 : IntKind.i8.wrap x = t0 := by
        rw [← ht0]
        show _ = 256 * (if 128 ≤ X.getD 0 0 then -1 else 0) + X.getD 0 0
        rw [hx, wrap_i8]
        split <;> omega
      have ew : wrap64 t0 = t0 := by unfold wrap64; omega
      have HX : Hid (Rd .u8 w b off X ∧ U8s X ∧ X.length = n ∧ iv X 1 = t0) := ⟨hr, uX, hn, ht0⟩
      obtain ⟨ba, hba⟩ : ∃ ba : Option Addr, (if c = 1 then some ⟨b, off, none⟩ else some ⟨b, off + 1, none⟩) = ba := ⟨_, rfl⟩
      have HBA : Hid (1 < n → ba = some ⟨b, off + 1, none⟩) := by intro h; rw [← hba, if_neg (by omega)]
      obtain ⟨n2, hn2⟩ : ∃ n2, n - 1 = n2 := ⟨_, rfl⟩
      have hcI : (1 : Int) ≤ (c : Int) := by omega
      clear hr hok uX hx ht0 hsm hl
      go_enter Tryz.func114, Tryz.ntmps114
      go_wp2_with fail
      refine HI.out.mono ?_
      rintro e w1 ⟨rfl, rfl⟩
      go_wp2_with fail
      go_loopw [4, 21] (fun nv iv' wr => ∃ (i : Nat) (t : Int), nv = .int .i64 t ∧ iv' = .int .i64 i ∧ i ≤ n2 ∧ iv X (i + 1) = t ∧ w = wr) (fun _ iv' _ => n2 - (intOf iv').toNat)
      case atStart => exact ⟨0, t0, by rw [ew], rfl, by omega, HX.out.2.2.2, rfl⟩
      case round =>
        obtain ⟨i, t, rfl, rfl, hi, ht, rfl⟩ := hrel
        have HT : Hid (iv X (i + 1) = t) := ht
        clear ht
        by_cases hlt : i < n2
        · have l1 : (i : Int) < (n2 : Int) := by omega
          have hba2 := HBA.out (by omega)
          subst hba2
          obtain ⟨y, hy⟩ : ∃ y, X.getD (i + 1) 0 = y := ⟨_, rfl⟩
          have cy : w.cell? ⟨b, off + 1 + i, none⟩ = some (.int .u8 y) := by
            have := HX.out.1 (i + 1) (by have := HX.out.2.2.1; omega)
            rw [hy, show off + (i + 1) = off + 1 + i by omega] at this; exact this
          have uy := HX.out.2.1.at (i + 1)
          rw [hy] at uy
          obtain ⟨y0, y1⟩ := uy
          have hs := iv_small HX.out.2.1 i (by omega)
          rw [HT.out] at hs
          have e2 := or_s64 t y hs.1 hs.2 y0 (by omega)
          have ew2 : wrap64 (t * 256) = t * 256 := by unfold wrap64; omega
          obtain ⟨t2, ht2⟩ : ∃ t2, t * 256 + y = t2 := ⟨_, rfl⟩
          rw [ht2] at e2
          have HT2 : Hid (iv X (i + 1 + 1) = t2) := by
            show 256 * iv X (i + 1) + X.getD (i + 1) 0 = _
            rw [HT.out, hy]; omega
          clear hs hy ht2
          go_wp2
          go_roundw
          case rel => exact ⟨i + 1, t2, rfl, by go_num, by omega, HT2.out, trivial⟩
          case measure => simp [intOf]; omega
        · obtain rfl : i = n2 := by omega
          have l1 : ¬ (i : Int) < (i : Int) := by omega
          go_wp2
          go_ret2
          exact ⟨by rw [HV.out.1, HV.out.2, show n = i + 1 by omega, HT.out]; rfl, rfl⟩
end Go.Proofs.YtillkhjihggcjaaGreatDoor
/-
  Der: rows of elements that are read.
-/
namespace Go.Proofs.YtillkhjihggcjaaGreatDoor
open Go.RowKit
/-- A slice of elements that can be read; the slice itself is the call's own. -/
def TlvR (B : Nat) (w : World) (v : Value) (L : List El) : Prop :=
  ∃ Y : List Tc, Y.map (·.1) = L ∧ MRow 5 24 B w v Y.length (tlvCells Y) ∧ ∀ y ∈ Y, Rw .u8 5 B w y.2.1 y.1.d ∧ Rw .u8 5 B w y.2.2 y.1.r
theorem TlvR.nil (B : Nat) (w : World) : TlvR B w (.slice none 0 0) [] := ⟨[], rfl, MRow.nil _ _ _ _, by simp⟩
theorem TlvR.below {B : Nat} {w w' : World} {v : Value} {L : List El} (h : TlvR B w v L) (hb : Below w.heap.size w w') : TlvR B w' v L := by
  obtain ⟨Y, h1, h2, h3⟩ := h
  exact ⟨Y, h1, h2.below hb, fun y hy => ⟨(h3 y hy).1.below hb, (h3 y hy).2.below hb⟩⟩
theorem TlvR.mono {B B' : Nat} {w : World} {v : Value} {L : List El} (h : TlvR B w v L) (hb : B' ≤ B) : TlvR B' w v L := by
  obtain ⟨Y, h1, h2, h3⟩ := h
  exact ⟨Y, h1, h2.mono hb, fun y hy => ⟨(h3 y hy).1.mono hb, (h3 y hy).2.mono hb⟩⟩
theorem Tlvs.r {B : Nat} {w : World} {v : Value} {L : List El} (h : Tlvs B w v L) : TlvR B w v L := by
  obtain ⟨Y, h1, h2, h3, _⟩ := h
  exact ⟨Y, h1, h2, fun y hy => ⟨.inl (h3 y hy).1, .inl (h3 y hy).2⟩⟩
theorem Rw.mgrew {B : Nat} {w w' : World} {v u : Value} {xs : List Int} (h : Rw .u8 5 B w v xs) (hg : MGrew 24 w w' u) : Rw .u8 5 B w' v xs := by
  rcases h with h | h
  · exact .inl (h.mgrew hg)
  · exact .inr h
end Go.Proofs.YtillkhjihggcjaaGreatDoor
/-
  Der: the reference's tag and length.
-/
namespace Go.Proofs.YtillkhjihggcjaaGreatDoor
open Go.RowKit
def Rs.i : Rs → Nat
  | .inl (_, _) => 0
  | .inr (_, i) => i
def Rs.a : Rs → Nat
  | .inl (_, a) => a
  | .inr (_, _) => 0
theorem results_tmp4 {fn : Func} {t u v x : Tmp} (h : fn.results = #[.tmp t, .tmp u, .tmp v, .tmp x]) (tmps : Array Value) (P : Program) (w : World) :
    (results fn tmps).run P w = .ok (.tuple #[tmps.getD t undef, tmps.getD u undef, tmps.getD v undef, tmps.getD x undef]) w := by
  simp [results, h]
def RsVal (O : Rs) : Value := .tuple #[.int .i64 O.v, .int .i64 O.i, .int .i64 O.e, .int .i64 O.a]
set_option maxRecDepth 20000 in
set_option maxHeartbeats 4000000 in
theorem Rtag_any {w : World} (b off n c p : Nat) (M : List Int) (hM : Rd .u8 w b off M) (uM : U8s M) (hMl : M.length = n) (hn : n ≤ 16777216) (hp : p < n) :
    Calls Tryz.prog 67 #[.slice (some ⟨b, off, none⟩) n c, .int .i64 p] w fun e w' => e = .returned (RsVal (tagS M p)) ∧ w = w' := by
  obtain ⟨x, hx⟩ : ∃ x, M.getD p 0 = x := ⟨_, rfl⟩
  have hu8 := uM.at p
  rw [hx] at hu8
  obtain ⟨O, hO⟩ : ∃ O, tagS M p = O := ⟨_, rfl⟩
  have HX : Hid (Rd .u8 w b off M ∧ U8s M ∧ M.length = n ∧ M.getD p 0 = x ∧ U8 x ∧ tagS M p = O) := ⟨hM, uM, hMl, hx, hu8, hO⟩
  have cx : w.cell? ⟨b, off + p, none⟩ = some (.int .u8 x) := by rw [hM p (by omega), hx]
  have x0 := hu8.1
  have x1 := hu8.2
  rw [hO]
  clear hM uM hMl hx hu8 hO
  have hpI : (p : Int) < (n : Int) := by omega
  have hnI : (n : Int) ≤ 16777216 := by omega
  obtain ⟨r, hr⟩ : ∃ r, x % 32 = r := ⟨_, rfl⟩
  have HR : Hid (x % 32 = r) := hr
  have r0 : 0 ≤ r := by omega
  have r1 : r ≤ 31 := by omega
  by_cases q1 : r = 31
  · subst q1
    have HO : Hid (lng M (p + 1) 0 = O) := by show _ = _; rw [← HX.out.2.2.2.2.2]; unfold tagS; rw [HX.out.2.2.2.1, if_pos hr]
    go_enter Tryz.func67, Tryz.ntmps67
    go_wp2_with fail
    go_loopw [8, 9] (fun nv iv wr => ∃ (i : Nat) (t : Int), nv = .int .i64 t ∧ iv = .int .i64 i ∧ p + 1 ≤ i ∧ i ≤ n ∧ 0 ≤ t ∧ t ≤ 268435455 ∧ (i = p + 1 → t = 0) ∧ (p + 1 < i → 1 ≤ t) ∧ lng M i t = O ∧ w = wr) (fun _ iv _ => n - (intOf iv).toNat)
    case atStart => exact ⟨p + 1, 0, rfl, by go_num, by omega, by omega, by decide, by decide, fun _ => rfl, by omega, HO.out, rfl⟩
    case round =>
      obtain ⟨i, t, rfl, rfl, hi1, hi, t0, t1, ht0, ht1, hl, rfl⟩ := hrel
      have H1 : Hid ((i = p + 1 → t = 0) ∧ (p + 1 < i → 1 ≤ t) ∧ lng M i t = O) := ⟨ht0, ht1, hl⟩
      clear ht0 ht1 hl cx
      by_cases hlt : i < n
      · have l1 : (i : Int) < (n : Int) := by omega
        obtain ⟨y, hy⟩ : ∃ y, M.getD i 0 = y := ⟨_, rfl⟩
        have hyu := HX.out.2.1.at i
        rw [hy] at hyu
        have y0 := hyu.1
        have y1 := hyu.2
        have cy : w.cell? ⟨b, off + i, none⟩ = some (.int .u8 y) := by rw [HX.out.1 i (by have := HX.out.2.2.1; omega), hy]
        obtain ⟨z, hz⟩ : ∃ z, y % 128 = z := ⟨_, rfl⟩
        obtain ⟨t', ht'⟩ : ∃ t', t * 128 + z = t' := ⟨_, rfl⟩
        have HS : Hid (O = if t' = 0 ∨ 268435455 < t' ∨ (y < 128 ∧ t' < 31) then .inl (30, i) else if y < 128 then .inr (t', (i + 1)) else lng M (i + 1) t') := by
          show _ = _
          rw [← H1.out.2.2]
          exact lng_step (by have := HX.out.2.2.1; omega) hy (by omega)
        have HZ : Hid (y % 128 = z ∧ t * 128 + z = t') := ⟨hz, ht'⟩
        have z0 : 0 ≤ z := by omega
        have z1 : z ≤ 127 := by omega
        have t20 : 0 ≤ t' := by omega
        have t21 : t' ≤ 34359738367 := by omega
        have HT : Hid (i ≠ p + 1 ∨ y ≠ 128 → y ≥ 128 → 1 ≤ t') := by
          intro h1 h2
          by_cases h3 : i = p + 1
          · have := H1.out.1 h3; omega
          · have := H1.out.2.1 (by omega); omega
        have HZ0 : Hid (t' = 0 → i = p + 1 ∧ (y = 128 ∨ y < 128)) := by
          intro h0
          by_cases h3 : i = p + 1
          · have := H1.out.1 h3; exact ⟨h3, by omega⟩
          · have := H1.out.2.1 (by omega); omega
        clear hy hyu
        by_cases q2 : 268435455 < t'
        · go_wp2
          (try simp only [Exit.inBlock, Exit.then]); refine bodyPost_ret (results_tmp4 rfl _ _ _) rfl ?_
          rw [HS.out, if_pos (by omega)]
          exact ⟨rfl, rfl⟩
        by_cases q3 : i = p + 1 ∧ y = 128
        · obtain ⟨q3, q3y⟩ := q3
          have q3yb : (y == 128) = true := by simpa using q3y
          have HY : Hid (y = 128) := q3y
          clear q3y
          have q3I : ((i : Int) == (p : Int) + 1) = true := by simp; omega
          have ht0 : t' = 0 := by have := H1.out.1 q3; have := HZ.out; have := HY.out; omega
          have HT0 : Hid (t' = 0) := ht0
          clear ht0 q3
          go_wp2
          (try simp only [Exit.inBlock, Exit.then]); refine bodyPost_ret (results_tmp4 rfl _ _ _) rfl ?_
          rw [HS.out, if_pos (.inl HT0.out)]
          exact ⟨rfl, rfl⟩
        have q3b : ((i : Int) == (p : Int) + 1) = false ∨ (((i : Int) == (p : Int) + 1) = true ∧ (y == 128) = false) := by
          by_cases h3 : i = p + 1
          · right; refine ⟨by simp; omega, ?_⟩; simp; omega
          · left; simp; omega
        rcases q3b with q3b | ⟨q3I, q3b⟩
        all_goals
          by_cases q4 : y < 128
          · by_cases q5 : t' < 31
            · go_wp2
              (try simp only [Exit.inBlock, Exit.then]); refine bodyPost_ret (results_tmp4 rfl _ _ _) rfl ?_
              rw [HS.out, if_pos (by omega)]
              exact ⟨rfl, rfl⟩
            · go_wp2
              (try simp only [Exit.inBlock, Exit.then]); refine bodyPost_ret (results_tmp4 rfl _ _ _) rfl ?_
              rw [HS.out, if_neg (by omega), if_pos q4]
              exact ⟨rfl, rfl⟩
          · go_wp2
            go_roundw
            case rel =>
              have h1 : 1 ≤ t' := HT.out (by omega) (by omega)
              refine ⟨i + 1, t', rfl, by go_num, by omega, by omega, t20, by omega, by omega, fun _ => h1, ?_, trivial⟩
              have h2 := HS.out
              rw [if_neg (by omega), if_neg (by omega)] at h2
              exact h2.symm
            case measure => simp [intOf]; omega
      · obtain rfl : i = n := by omega
        have l1 : ¬ (i : Int) < (i : Int) := by omega
        go_wp2
        (try simp only [Exit.inBlock, Exit.then]); refine bodyPost_ret (results_tmp4 rfl _ _ _) rfl ?_
        have h1 := H1.out.2.2
        rw [lng_end (by have := HX.out.2.2.1; omega), HX.out.2.2.1] at h1
        subst h1
        exact ⟨rfl, rfl⟩
  have q1b : (r != 31) = true := by simpa using q1
  by_cases q2 : r = 0 ∧ x < 64
  · obtain ⟨rfl, q2⟩ := q2
    have HO : Hid (O = .inl (30, p)) := by show _ = _; rw [← HX.out.2.2.2.2.2]; unfold tagS; rw [HX.out.2.2.2.1, hr, if_neg (by omega), if_pos ⟨rfl, q2⟩]
    go_enter Tryz.func67, Tryz.ntmps67
    go_wp2
    (try simp only [Exit.inBlock, Exit.then]); refine bodyPost_ret (results_tmp4 rfl _ _ _) rfl ?_
    rw [HO.out]
    exact ⟨rfl, rfl⟩
  · have HO : Hid (O = .inr (r, (p + 1))) := by show _ = _; rw [← HX.out.2.2.2.2.2]; unfold tagS; rw [HX.out.2.2.2.1, hr, if_neg q1, if_neg q2]
    have q2b : (r == 0) = false ∨ ((r == 0) = true ∧ ¬ x < 64) := by
      by_cases h0 : r = 0
      · right; exact ⟨by simpa using h0, by omega⟩
      · left; simpa using h0
    rcases q2b with q2b | ⟨q2b, q2c⟩
    all_goals
      go_enter Tryz.func67, Tryz.ntmps67
      go_wp2
      (try simp only [Exit.inBlock, Exit.then]); refine bodyPost_ret (results_tmp4 rfl _ _ _) rfl ?_
      rw [HO.out]
      exact ⟨rfl, rfl⟩
end Go.Proofs.YtillkhjihggcjaaGreatDoor
