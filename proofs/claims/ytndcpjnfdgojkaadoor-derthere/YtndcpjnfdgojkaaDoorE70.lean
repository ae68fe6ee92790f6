/-
  Der: the numbers that stand in an object identifier's bytes.
-/
import Derived.Test.YtndcpjnfdgojkaaDoorE13
namespace Go.Proofs.YtndcpjnfdgojkaaDoor
open Go.RowKit
/-- The numbers of the first i bytes that have ended, and what is read of the next one. -/
def gst (X : List Int) : Nat → List Nat × Nat
  | 0 => ([], 0)
  | i + 1 => if X.getD i 0 < 128 then ((gst X i).1 ++ [(gst X i).2 * 128 + (X.getD i 0 % 128).toNat], 0) else ((gst X i).1, (gst X i).2 * 128 + (X.getD i 0 % 128).toNat)
/-- Does a number begin at place i? -/
def btw (X : List Int) : Nat → Bool
  | 0 => true
  | i + 1 => decide (X.getD i 0 < 128)
def fine (X : List Int) (i : Nat) : Prop := ∀ j, j < i → ¬ (btw X j = true ∧ X.getD j 0 = 128)
def capN (c v : Nat) : Int := ((min v c : Nat) : Int)
def capL (c : Nat) (A : List Nat) : List Int := A.map (capN c)
def arcsOk (X : List Int) : Bool := btw X X.length && decide (0 < (gst X X.length).1.length)
theorem gst_lo {X : List Int} {i : Nat} {x : Int} (hx : X.getD i 0 = x) (h : x < 128) : gst X (i + 1) = ((gst X i).1 ++ [(gst X i).2 * 128 + (x % 128).toNat], 0) := by
  show (if X.getD i 0 < 128 then _ else _) = _; rw [hx, if_pos h]
theorem gst_hi {X : List Int} {i : Nat} {x : Int} (hx : X.getD i 0 = x) (h : ¬ x < 128) : gst X (i + 1) = ((gst X i).1, (gst X i).2 * 128 + (x % 128).toNat) := by
  show (if X.getD i 0 < 128 then _ else _) = _; rw [hx, if_neg h]
theorem gst_len (X : List Int) : ∀ i, (gst X i).1.length ≤ i
  | 0 => by simp [gst]
  | i + 1 => by
    have := gst_len X i
    by_cases h : X.getD i 0 < 128
    · rw [gst_lo rfl h]; simp; omega
    · rw [gst_hi rfl h]; show (gst X i).1.length ≤ _; omega
theorem or_u64 (s : Nat) (x y : Int) (hx0 : 0 ≤ x) (hx : x * 2 ^ s < 18446744073709551616) (hy0 : 0 ≤ y) (hy : y < 2 ^ s) (hs : s ≤ 32) : bits .or .u64 (x * 2 ^ s) y = x * 2 ^ s + y := by
  obtain ⟨a, rfl⟩ := Int.eq_ofNat_of_zero_le hx0
  obtain ⟨b, rfl⟩ := Int.eq_ofNat_of_zero_le hy0
  have e : ((a * 2 ^ s : Nat) : Int) = (a : Int) * 2 ^ s := by simp
  have hb : b < 2 ^ s := by
    have : ((b : Nat) : Int) < ((2 ^ s : Nat) : Int) := by rw [Int.natCast_pow]; exact hy
    exact Int.ofNat_lt.1 this
  have ha : a * 2 ^ s < 2 ^ 64 := by
    have : ((a * 2 ^ s : Nat) : Int) < ((2 ^ 64 : Nat) : Int) := by rw [e]; exact hx
    exact Int.ofNat_lt.1 this
  have hb2 : b < 2 ^ 64 := Nat.lt_of_lt_of_le hb (Nat.pow_le_pow_right (by decide) (by omega))
  have h := (bits_nat .u64 64 (by decide) (fun n h₀ h₁ => by rw [IntKind.wrap_u64]; omega) (a * 2 ^ s) b ha hb2).2
  rw [e] at h
  rw [h, Nat.mul_comm a, ← Nat.two_pow_add_eq_or_of_lt hb a, Nat.mul_comm, Int.natCast_add, e]
def LaidAns (X : List Int) (B : Nat) (w : World) (e : Ending) : Prop :=
  (fine X X.length ∧ ∃ r, e = .returned (.tuple #[r, .bool (arcsOk X)]) ∧ Row .u64 81 B w r (capL 2147483728 (gst X X.length).1)) ∨ (¬ fine X X.length ∧ e = .returned (.tuple #[.slice none 0 0, .bool false]))
set_option maxRecDepth 20000 in
set_option maxHeartbeats 4000000 in
theorem laidArcs_any {w : World} (v : Value) (X : List Int) (hX : Sl .u8 w v X) (uX : U8s X) (hl : X.length ≤ 2000) :
    Calls Tryd.prog 44 #[v] w fun e w' => LaidAns X w.heap.size w' e ∧ Below w.heap.size w w' := by
  obtain ⟨a, c, rfl, hc, hx⟩ := hX
  obtain ⟨n, hn⟩ : ∃ n, X.length = n := ⟨_, rfl⟩
  have HX : Hid (U8s X ∧ X.length = n ∧ (X = [] ∨ ∃ b off, a = some ⟨b, off, none⟩ ∧ b < w.heap.size ∧ Rd .u8 w b off X)) := ⟨uX, hn, hx⟩
  rw [hn] at hl hc ⊢
  have hlI : (n : Int) ≤ 2000 := by omega
  clear uX hx hn
  go_enter Tryd.func44, Tryd.ntmps44
  go_wp2_with fail
  go_loopw [2, 4, 5, 10] (fun lv nv bv iv wr => ∃ (i : Nat) (l0 : Value) (t : Int) (z : Bool), l0 = lv ∧ nv = .int .u64 t ∧ bv = .bool z ∧ iv = .int .i64 i ∧ i ≤ n ∧ t = capN 2147483728 (gst X i).2 ∧ z = btw X i ∧ fine X i ∧ Row .u64 81 w.heap.size wr l0 (capL 2147483728 (gst X i).1) ∧ Below w.heap.size w wr) (fun _ _ _ iv _ => n - (intOf iv).toNat)
  case atStart => exact ⟨0, _, 0, true, rfl, rfl, rfl, rfl, by omega, rfl, rfl, fun j hj => by omega, Row.nil _ _ _ _, Below.refl _ _⟩
  case round =>
    obtain ⟨i, l0, t, z, rfl, rfl, rfl, rfl, hi, ht, hz, hf, hr, hb⟩ := hrel
    have H1 : Hid (t = capN 2147483728 (gst X i).2 ∧ z = btw X i ∧ fine X i ∧ Row .u64 81 w.heap.size wr l0 (capL 2147483728 (gst X i).1) ∧ Below w.heap.size w wr) := ⟨ht, hz, hf, hr, hb⟩
    have t0 : 0 ≤ t := by rw [ht]; unfold capN; omega
    have t1 : t ≤ 2147483728 := by rw [ht]; unfold capN; omega
    clear ht hz hf hr hb
    by_cases hlt : i < n
    · have l1 : (i : Int) < (n : Int) := by omega
      obtain ⟨b, off, hab, hbw, hrd⟩ : ∃ b off, a = some ⟨b, off, none⟩ ∧ b < w.heap.size ∧ Rd .u8 w b off X := by
        rcases HX.out.2.2 with h | h
        · have := HX.out.2.1; rw [h] at this; simp at this; omega
        · exact h
      subst hab
      obtain ⟨x, hx⟩ : ∃ x, X.getD i 0 = x := ⟨_, rfl⟩
      have hxu := HX.out.1.at i
      rw [hx] at hxu
      have x0 := hxu.1
      have x1 := hxu.2
      have cx : wr.cell? ⟨b, off + i, none⟩ = some (.int .u8 x) := by rw [below_rd H1.out.2.2.2.2 hbw hrd i (by have := HX.out.2.1; omega), hx]
      have e1 := and_127 x hxu
      obtain ⟨y, hy⟩ : ∃ y, x % 128 = y := ⟨_, rfl⟩
      rw [hy] at e1
      have y0 : 0 ≤ y := by omega
      have y1 : y ≤ 127 := by omega
      have e2 := or_u64 7 t y t0 (by omega) y0 (by omega) (by decide)
      rw [show t * 2 ^ 7 = t * 128 from rfl] at e2
      obtain ⟨t2, ht2⟩ : ∃ t2, t * 128 + y = t2 := ⟨_, rfl⟩
      rw [ht2] at e2
      have t20 : 0 ≤ t2 := by omega
      have t21 : t2 ≤ 274877917311 := by omega
      have HC : Hid (min t2 2147483728 = capN 2147483728 ((gst X i).2 * 128 + (x % 128).toNat)) := by
        show _ = _
        have h1 := H1.out.1
        unfold capN at h1 ⊢
        omega
      have HXx : Hid (X.getD i 0 = x) := hx
      clear hx hxu hrd ht2 hy
      by_cases hbad : z = true ∧ x = 128
      · obtain ⟨rfl, rfl⟩ := hbad
        go_wp2
        go_ret2
        refine ⟨.inr ⟨fun h => ?_, rfl⟩, H1.out.2.2.2.2⟩
        exact h i (by have := HX.out.2.1; omega) ⟨H1.out.2.1.symm, HXx.out⟩
      have HF : Hid (fine X (i + 1)) := by
        intro j hj
        by_cases hji : j = i
        · subst hji; rw [HXx.out, ← H1.out.2.1]; exact hbad
        · exact H1.out.2.2.1 j (by omega)
      have hzx : z = false ∨ (z = true ∧ (x == 128) = false) := by
        cases z with
        | false => exact .inl rfl
        | true => right; refine ⟨rfl, ?_⟩; simp; intro h; exact hbad ⟨rfl, h⟩
      obtain ⟨m, hm⟩ : ∃ m, min t2 2147483728 = m := ⟨_, rfl⟩
      have HM : Hid (m = capN 2147483728 ((gst X i).2 * 128 + (x % 128).toNat)) := by show _ = _; rw [← hm]; exact HC.out
      have m0 : 0 ≤ m := by omega
      have m1 : m ≤ 2147483728 := by omega
      have hmc : (t2 ≤ 2147483728 ∧ m = t2) ∨ (¬ t2 ≤ 2147483728 ∧ m = 2147483728) := by omega
      clear hbad hm
      by_cases hlo : x < 128
      · have HG := gst_lo HXx.out hlo
        have HGm : Hid (capL 2147483728 (gst X (i + 1)).1 = capL 2147483728 (gst X i).1 ++ [m] ∧ (gst X (i + 1)).2 = 0 ∧ btw X (i + 1) = true) := by
          refine ⟨?_, by rw [HG], ?_⟩
          · rw [HG]; unfold capL; rw [List.map_append, HM.out]; rfl
          · show decide (X.getD i 0 < 128) = true; rw [HXx.out]; simpa using hlo
        clear HG
        have hlen : (capL 2147483728 (gst X i).1).length ≤ 2000 := by unfold capL; rw [List.length_map]; have := gst_len X i; omega
        rcases hzx with rfl | ⟨rfl, hx128⟩ <;> rcases hmc with ⟨hq, rfl⟩ | ⟨hq, rfl⟩
        all_goals
          go_wp2_with (at_builtin; refine wpList_ap rfl (.tmp 29) (.tmp 31) 83 83 rfl .u64 81 8 Tryd.und64 Tryd.info64 (by decide) w.heap.size _ (capL 2147483728 (gst X i).1) rfl (H1.out.2.2.2.1.alloc _) _ [_] rfl (src_sl Tryd.und64 (new_sl (k := .u64) [_] (0, 0))) (by simp; omega) (by have := H1.out.2.2.2.2.size; simp; omega) ?_; intro v2 w2 hr2 hg2)
          have H2 : Hid (Row .u64 81 w.heap.size w2 v2 (capL 2147483728 (gst X (i + 1)).1) ∧ Below w.heap.size w w2) := ⟨by rw [HGm.out.1]; exact hr2, (al2' H1.out.2.2.2.2).trans (hg2.below (H1.out.2.2.2.1.alloc _) (by have := H1.out.2.2.2.2.size; simp; omega))⟩
          clear hr2 hg2
          go_roundw
          case rel => exact ⟨i + 1, _, 0, true, rfl, rfl, rfl, by go_num, by omega, by rw [HGm.out.2.1]; rfl, HGm.out.2.2.symm, HF.out, H2.out.1, H2.out.2⟩
          case measure => simp [intOf]; omega
      · have HG := gst_hi HXx.out hlo
        have HGm : Hid ((gst X (i + 1)).1 = (gst X i).1 ∧ m = capN 2147483728 (gst X (i + 1)).2 ∧ btw X (i + 1) = false) := by
          refine ⟨by rw [HG], ?_, ?_⟩
          · rw [HG]; exact HM.out
          · show decide (X.getD i 0 < 128) = false; rw [HXx.out]; simpa using hlo
        clear HG
        rcases hzx with rfl | ⟨rfl, hx128⟩ <;> rcases hmc with ⟨hq, rfl⟩ | ⟨hq, rfl⟩
        all_goals
          go_wp2
          go_roundw
          case rel => exact ⟨i + 1, _, _, false, rfl, rfl, rfl, by go_num, by omega, HGm.out.2.1, HGm.out.2.2.symm, HF.out, by rw [HGm.out.1]; exact H1.out.2.2.2.1, H1.out.2.2.2.2⟩
          case measure => simp [intOf]; omega
    · obtain rfl : i = n := by omega
      have l1 : ¬ (i : Int) < (i : Int) := by omega
      obtain ⟨al, cl, hv⟩ := H1.out.2.2.2.1.ne
      obtain ⟨k, hk⟩ : ∃ k, (capL 2147483728 (gst X i).1).length = k := ⟨_, rfl⟩
      rw [hk] at hv
      subst hv
      have HK : Hid (arcsOk X = (z && decide (0 < k))) := by
        show _ = _
        unfold arcsOk
        rw [HX.out.2.1, ← H1.out.2.1, ← hk]
        unfold capL
        rw [List.length_map]
      clear hk
      obtain ⟨K, hK⟩ : ∃ K, arcsOk X = K := ⟨_, rfl⟩
      have HKK : Hid (arcsOk X = K) := hK
      rw [hK] at HK
      clear hK
      have fin : Hid (∀ W, W = wr → ∀ e, e = .returned (.tuple #[.slice al k cl, .bool K]) → LaidAns X w.heap.size W e ∧ Below w.heap.size w W) := by
        rintro W rfl e rfl
        refine ⟨.inl ⟨?_, _, by rw [HKK.out], ?_⟩, H1.out.2.2.2.2⟩
        · rw [HX.out.2.1]; exact H1.out.2.2.1
        · rw [HX.out.2.1]; exact H1.out.2.2.2.1
      by_cases hz : z = true
      · subst hz
        have hKt : K = decide (0 < k) := by rw [HK.out]; simp
        go_wp2
        go_ret2
        exact fin.out _ rfl _ (by rw [hKt]; rfl)
      · have hz' : z = false := by simpa using hz
        subst hz'
        have hKt : K = false := by rw [HK.out]; rfl
        go_wp2
        go_ret2
        exact fin.out _ rfl _ (by rw [hKt]; rfl)
end Go.Proofs.YtndcpjnfdgojkaaDoor
