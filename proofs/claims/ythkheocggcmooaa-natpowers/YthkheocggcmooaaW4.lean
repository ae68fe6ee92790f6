/-
  The walk of sum: the sum of any two numbers, in new memory.
-/
import Derived.Test.YthkheocggcmooaaLaws
import Derived.Deep.Cut
namespace Go.Proofs.Ythkheocggcmooaa
open Go.RowKit

theorem Sl.old {k : IntKind} {w : World} {v : Value} {xs : List Int} (h : Sl k w v xs) : ∀ b o n c, xs ≠ [] → v = .slice (some ⟨b, o, none⟩) n c → b < w.heap.size := by
  intro b o n c hne hv
  obtain ⟨a, c', rfl, _, h | ⟨b', o', rfl, hb, _⟩⟩ := h
  · exact absurd h hne
  · cases hv; exact hb
theorem Sl.ne {k : IntKind} {w : World} {v : Value} {xs : List Int} (h : Sl k w v xs) {ba : Nat} (hb : w.heap.size ≤ ba) : ∀ b o n c, xs ≠ [] → v = .slice (some ⟨b, o, none⟩) n c → b ≠ ba := by
  intro b o n c h1 h2; have := h.old b o n c h1 h2; omega
theorem val_set {S : List Int} {i : Nat} (h : i < S.length) (z : Int) : val (S.set i z) = val S + 4294967296 ^ i * (z - S.getD i 0) := by
  induction S generalizing i with
  | nil => simp at h
  | cons x S ih =>
    cases i with
    | zero => simp [val]; omega
    | succ i =>
      have := ih (i := i) (by simpa using h)
      simp only [List.set_cons_succ, val, this, pow_succ32, Int.mul_add, Int.mul_assoc]
      simp only [List.getD_cons_succ]; omega

theorem nmin2 {a b : Nat} (h : b ≤ a) : b = Nat.min a b := (Nat.min_eq_right h).symm
theorem nmin {a b : Nat} (h : a ≤ b) : a = Nat.min a b := (Nat.min_eq_left h).symm

/-- A carry of 1 does not run over the end. -/
theorem pow_mono {i j : Nat} (h : i ≤ j) : (4294967296 : Int) ^ i ≤ 4294967296 ^ j := by
  obtain ⟨d, rfl⟩ := Nat.le.dest h
  rw [Int.pow_add]
  have h1 := pow_pos32 i; have h2 := pow_pos32 d
  calc (4294967296 : Int) ^ i = 4294967296 ^ i * 1 := by rw [Int.mul_one]
    _ ≤ 4294967296 ^ i * 4294967296 ^ d := Int.mul_le_mul_of_nonneg_left (by omega) (by omega)
theorem carry_in {i n : Nat} {s t : Int} (h0 : 0 ≤ s) (h : s + 4294967296 ^ i * 1 = t) (ht : t < 4294967296 ^ (n + 1)) : i ≤ n := by
  apply Classical.byContradiction; intro hc
  have := pow_mono (i := n + 1) (j := i) (by omega)
  omega

theorem sum_start {X Y Z : List Int} {carry : Int} {w : World} {blk : Nat} (uX : U32s X) (uY : U32s Y) (lXY : Y.length ≤ X.length) (uZ : U32s Z) (lZ : Z.length = Y.length) (hc0 : 0 ≤ carry)
    (heq : val Z + 4294967296 ^ Y.length * carry = val (((List.take 0 (List.replicate (X.length + 1) (0 : Int)) ++ (X.take X.length ++ (List.replicate (X.length + 1) 0).drop (0 + X.length))).drop 0).take Y.length) + 1 * val Y)
    (hA : Arr .u32 53 w blk ((List.take 0 (List.replicate (X.length + 1) (0 : Int)) ++ (X.take X.length ++ (List.replicate (X.length + 1) 0).drop (0 + X.length))).take 0 ++ Z ++ (List.take 0 (List.replicate (X.length + 1) (0 : Int)) ++ (X.take X.length ++ (List.replicate (X.length + 1) 0).drop (0 + X.length))).drop (0 + Z.length))) :
    ∃ S, Arr .u32 53 w blk S ∧ U32s S ∧ S.length = X.length + 1 ∧ val S + 4294967296 ^ Y.length * carry = val X + val Y ∧ (carry = 0 ∨ carry = 1) := by
  have e1 : List.take 0 (List.replicate (X.length + 1) (0 : Int)) ++ (X.take X.length ++ (List.replicate (X.length + 1) 0).drop (0 + X.length)) = X ++ [0] := by simp
  rw [e1] at heq hA
  simp only [List.take_zero, List.nil_append, Nat.zero_add, List.drop_zero] at heq hA
  have hsplit : val (X ++ [0]) = val ((X ++ [0]).take Y.length) + 4294967296 ^ Y.length * val ((X ++ [0]).drop Y.length) := by
    conv => lhs; rw [← List.take_append_drop Y.length (X ++ [0])]
    rw [val_append, List.length_take, Nat.min_eq_left (by simp; omega)]
  have hX0 : val (X ++ [0]) = val X := by rw [val_snoc]; simp
  have uX0 : U32s (X ++ [0]) := uX.append (U32s.zeros 1)
  refine ⟨_, hA, uZ.append (uX0.drop _), by simp; omega, ?_, ?_⟩
  · rw [val_append, lZ]; omega
  · have h1 := val_lt (uX0.take Y.length)
    rw [List.length_take, Nat.min_eq_left (by simp; omega)] at h1
    have h2 := val_lt uY; have h3 := val_nonneg uZ; have hp := pow_pos32 Y.length
    have h4 : 4294967296 ^ Y.length * carry < 4294967296 ^ Y.length * 2 := by omega
    have h5 := Int.lt_of_mul_lt_mul_left h4 (by omega)
    omega

set_option maxHeartbeats 1000000 in
theorem sum_any (xs ys : List Int) (v u : Value) (w : World) (hx : Sl .u32 w v xs) (hy : Sl .u32 w u ys) (ux : U32s xs) (uy : U32s ys) (lx : xs.length ≤ 1099511627776) (ly : ys.length ≤ 1099511627776) :
    Calls Try.prog 44 #[v, u] w fun e w' => ∃ r, e = .returned r ∧ Own w.heap.size w' r (lim (val xs + val ys).toNat) ∧ Below w.heap.size w w' := by
  obtain ⟨a1, c1, rfl, hc1⟩ := hx.len
  obtain ⟨a2, c2, rfl, hc2⟩ := hy.len
  obtain ⟨tot, htot⟩ : ∃ tot, val xs + val ys = tot := ⟨_, rfl⟩
  rw [htot]
  go_enter Try.func44, Try.ntmps44
  go_upto_if 12 with (fail)
  go_cut [0, 1] from 8 (fun s0 s1 wc => wc = w ∧ ∃ X Y, Sl .u32 w s0 X ∧ Sl .u32 w s1 Y ∧ U32s X ∧ U32s Y ∧ X.length ≤ 1099511627776 ∧ Y.length ≤ X.length ∧ val X + val Y = tot)
  case first =>
    by_cases hlt : xs.length < ys.length
    · go_wp2
      go_meet
      case rel => exact ⟨rfl, ys, xs, hy, hx, uy, ux, ly, by omega, by omega⟩
    · go_wp2
      go_meet
      case rel => exact ⟨rfl, xs, ys, hx, hy, ux, uy, lx, by omega, htot⟩
  case rest =>
    obtain ⟨rfl, X, Y, hX, hY, uX, uY, lX, lXY, hT⟩ := hcut
    clear hx hy ux uy lx ly hc1 hc2 htot
    obtain ⟨aX, cX, rfl, hcX⟩ := hX.len
    obtain ⟨aY, cY, rfl, hcY⟩ := hY.len
    have HT : Hid (val X + val Y = tot) := hT
    clear hT
    go_wp2_with (first
      | (at_make; refine wpList_mk _ rfl _ _ 22 rfl .u32 53 4 Try.und32 Try.info32 _ (X.length + 1) rfl rfl (by omega) (by omega) (by omega) ?_; intro w1 hA1 hB1)
      | (refine wpList_cp rfl (.tmp 19) (.tmp 20) 22 rfl .u32 53 Try.und32 Try.one32 _ 0 (X.length + 1) (X.length + 1) _ X hA1 _ rfl rfl (below_sl hB1 hX) X.length (nmin (by omega)) (by simp) ?_; intro w2 hA2 hU2)
      | (go_at_call 65; refine (addTimes_any _ Y 1 _ 0 _ _ _ _ hA2 (by simpa using uX.append (U32s.zeros 1)) ⟨by decide, by decide⟩ uY (below_sl (hU2.below hB1 (Nat.le_of_lt hA1.lt) (Nat.le_refl _)) hY) (hY.ne (Nat.le_refl _)) (by simp; omega) (by omega) (by omega)).mono ?_; rintro e w3 ⟨Z, carry, rfl, hcar, hZ, hZl, hA3, hU3, heq⟩))
    obtain ⟨S, hAS, huS, hlS, hvS, hcar1⟩ := sum_start uX uY lXY hZ hZl hcar.1 heq hA3
    have htl : tot < 4294967296 ^ (X.length + 1) := by
      have h1 := val_lt uX; have h2 := val_lt uY; have h3 := pow_mono lXY; have h4 := HT.out; have h5 := pow_pos32 X.length; rw [pow_succ32]; omega
    have hB3 : Below wc.heap.size wc w3 := hU3.below (hU2.below hB1 (Nat.le_of_lt hA1.lt) (Nat.le_refl _)) (Nat.le_of_lt (hA2.lt)) (Nat.le_refl _)
    rw [HT.out] at hvS
    clear hA1 hA2 hA3 hU2 hU3 hB1 heq hZ hZl HT hX hY uX uY hcX hcY
    go_loopw [6, 7] (fun cv iv wr => ∃ (i : Nat) (cr : Int) (S : List Int), iv = .int .i64 i ∧ cv = .int .u32 cr ∧ (cr = 0 ∨ cr = 1) ∧ Arr .u32 53 wr wc.heap.size S ∧ U32s S ∧ S.length = X.length + 1 ∧ Below wc.heap.size wc wr ∧ val S + 4294967296 ^ i * cr = tot ∧ i ≤ X.length + 1)
      (fun _ iv _ => X.length + 2 - (intOf iv).toNat)
    case atStart => exact ⟨Y.length, carry, S, rfl, rfl, hcar1, hAS, huS, hlS, hB3, hvS, by omega⟩
    case round =>
      clear hAS huS hlS hvS hB3 hcar1 hcar
      obtain ⟨i, cr, S, rfl, rfl, hcr, hAS, huS, hlS, hB3, hvS, hiX⟩ := hrel
      rcases hcr with rfl | rfl
      · have HS : Hid (Arr .u32 53 wr wc.heap.size S ∧ U32s S ∧ S.length = X.length + 1 ∧ Below wc.heap.size wc wr ∧ val S + 4294967296 ^ i * 0 = tot) := ⟨hAS, huS, hlS, hB3, hvS⟩
        have hsl := hAS.sl
        rw [hlS] at hsl
        have hcut := cut_any S (some ⟨wc.heap.size, 0, none⟩) (X.length + 1) wr (by rw [hlS]; exact hsl) (by omega)
        rw [hlS] at hcut
        clear hAS huS hB3 hvS hsl
        go_wp2_with (go_at_call 45; refine hcut.mono ?_; rintro e w4 ⟨rfl, rfl⟩)
        go_ret
        obtain ⟨hAS, huS, hlS, hB3, hvS⟩ := HS.out
        refine ⟨_, rfl, ?_, hB3⟩
        have := Own.cut (B := wc.heap.size) hAS huS (Nat.le_refl _) (by omega)
        rw [hlS] at this
        rw [← hvS]; simpa using this
      · have hi := carry_in (val_nonneg huS) hvS htl
        obtain ⟨z, hz⟩ : ∃ z, S.getD i 0 = z := ⟨_, rfl⟩
        have uz : U32 z := hz ▸ huS.at i
        obtain ⟨z1, z2⟩ := uz
        have hcell : wr.cell? ⟨wc.heap.size, i, none⟩ = some (.int .u32 z) := by rw [← hz]; exact hAS.cell i (by omega)
        have hfz : wr.frozen? ⟨wc.heap.size, i, none⟩ = false := hAS.frozen i
        have HS : Hid (Arr .u32 53 wr wc.heap.size S ∧ U32s S ∧ S.length = X.length + 1 ∧ Below wc.heap.size wc wr ∧ val S + 4294967296 ^ i * 1 = tot ∧ S.getD i 0 = z) := ⟨hAS, huS, hlS, hB3, hvS, hz⟩
        clear hAS huS hlS hB3 hvS hz
        by_cases hzz : z = 4294967295
        · subst hzz
          go_wp2
          go_roundw
          case rel =>
            obtain ⟨hAS, huS, hlS, hB3, hvS, hz⟩ := HS.out
            refine ⟨i + 1, 1, S.set i 0, by go_num, rfl, .inr rfl, hAS.set _ _, huS.set _ ⟨by decide, by decide⟩, by simpa using hlS, hB3.setCell (Nat.le_refl _) _, ?_, by omega⟩
            rw [val_set (by omega), hz, pow_succ32]; omega
          case measure => simp [intOf]; omega
        · go_wp2
          go_roundw
          case rel =>
            obtain ⟨hAS, huS, hlS, hB3, hvS, hz⟩ := HS.out
            refine ⟨i + 1, 0, S.set i (z + 1), by go_num, rfl, .inl rfl, hAS.set _ _, huS.set _ ⟨by omega, by omega⟩, by simpa using hlS, hB3.setCell (Nat.le_refl _) _, ?_, by omega⟩
            rw [val_set (by omega), hz]; simp; omega
          case measure => simp [intOf]; omega
end Go.Proofs.Ythkheocggcmooaa
