/-
  The walk of the reference's order: which of two numbers in digits is greater.
-/
import Derived.Deep.CutRange
import Derived.Test.YtillkhjihggcjaaGreatDoorK28
namespace Go.Proofs.YtillkhjihggcjaaGreatDoor.Nt
open Go.RowKit

def maxN (a b : Nat) : Nat := if a < b then b else a
set_option maxHeartbeats 1000000 in
theorem order_any {w : World} (v u : Value) (xs ys : List Int) (h : Sl .u64 w v xs) (h' : Sl .u64 w u ys) (ux : D.U16s xs) (uy : D.U16s ys) (hl : xs.length ≤ 1073741824) (hl' : ys.length ≤ 1073741824) (c : Int) (hc : cmpI (D.val xs) (D.val ys) = c) :
    Calls Tryz.prog 107 #[v, u] w fun e w' => e = .returned (.int .i64 c) ∧ w = w' := by
  obtain ⟨a, cp, hv, _⟩ := h.len
  obtain ⟨a', cp', hv', _⟩ := h'.len
  subst hv; subst hv'
  obtain ⟨n, hn⟩ : ∃ n, maxN xs.length ys.length = n := ⟨_, rfl⟩
  have hn1 : xs.length ≤ n := by rw [← hn]; unfold maxN; split <;> omega
  have hn2 : ys.length ≤ n := by rw [← hn]; unfold maxN; split <;> omega
  have HC : Hid (cmpI (D.val xs) (D.val ys) = c) := hc
  clear hc
  by_cases hlt : xs.length < ys.length
  · have e1 : n = ys.length := by rw [← hn]; unfold maxN; rw [if_pos hlt]
    clear hn
    subst e1
    go_enter Tryz.func107, Tryz.ntmps107
    go_wp2
    go_loop [6] (fun i => ∃ k : Nat, k ≤ ys.length ∧ i = .int .i64 ((k : Int) - 1) ∧ ∀ j, k ≤ j → xs.getD j 0 = ys.getD j 0) (fun i => (intOf i + 1).toNat)
    case atStart => exact ⟨ys.length, Nat.le_refl _, by go_num, fun j h1 => by rw [List.getD, List.getD, List.getElem?_eq_none (by omega), List.getElem?_eq_none (by omega)]⟩
    case round =>
      obtain ⟨k, hk, rfl, hz⟩ := hrel
      cases k with
      | zero =>
        have HE : Hid (c = 0) := by
          have h1 := D.val_ext xs ys (fun j => hz j (Nat.zero_le _)); have h2 := HC.out
          unfold cmpI at h2; rw [if_neg (by omega), if_neg (by omega)] at h2; exact h2.symm
        clear hz
        simp only [Int.ofNat_zero, Int.zero_sub]
        go_wp2
        go_ret
        exact ⟨by rw [HE.out]; rfl, rfl⟩
      | succ m =>
        have em : (((m + 1 : Nat) : Int) - 1) = (m : Int) := by omega
        rw [em]
        clear em
        obtain ⟨x, hx⟩ : ∃ x, xs.getD m 0 = x := ⟨_, rfl⟩
        obtain ⟨y, hy⟩ : ∃ y, ys.getD m 0 = y := ⟨_, rfl⟩
        have HZ : Hid (∀ j, m + 1 ≤ j → xs.getD j 0 = ys.getD j 0) := hz
        have HX : Hid (xs.getD m 0 = x) := hx
        have HY : Hid (ys.getD m 0 = y) := hy
        have HT : Hid (x < y → c = -1) := fun hlt => by
          have h1 := D.val_lt_of m xs ys ux uy (fun j hj => hz j (by omega)) (by rw [hx, hy]; exact hlt)
          have h2 := HC.out; unfold cmpI at h2; rw [if_pos h1] at h2; exact h2.symm
        have HG : Hid (y < x → c = 1) := fun hlt => by
          have h1 := D.val_lt_of m ys xs uy ux (fun j hj => (hz j (by omega)).symm) (by rw [hx, hy]; exact hlt)
          have h2 := HC.out; unfold cmpI at h2; rw [if_neg (by omega), if_pos h1] at h2; exact h2.symm
        clear hz hx hy
        have hd1 := digit_nat _ xs h (by omega) m (by omega) x HX.out
        have hd2 := digit_nat _ ys h' (by omega) m (by omega) y HY.out
        by_cases hxy : x < y
        · have hE : c = -1 := HT.out hxy
          subst hE
          go_wp2_with (first
            | (go_at_call 129; replace hdone := hdone; refine (hd2).mono ?_; rintro e w' ⟨rfl, rfl⟩; clear hdone)
            | (go_at_call 129; refine (hd1).mono ?_; rintro e w' ⟨rfl, rfl⟩; have hdone := trivial))
          go_ret
          exact ⟨rfl, rfl⟩
        by_cases hyx : y < x
        · have hE : c = 1 := HG.out hyx
          subst hE
          go_wp2_with (first
            | (go_at_call 129; replace hdone := hdone; refine (hd2).mono ?_; rintro e w' ⟨rfl, rfl⟩; clear hdone)
            | (go_at_call 129; refine (hd1).mono ?_; rintro e w' ⟨rfl, rfl⟩; have hdone := trivial))
          go_ret
          exact ⟨rfl, rfl⟩
        · go_wp2_with (first
            | (go_at_call 129; replace hdone := hdone; refine (hd2).mono ?_; rintro e w' ⟨rfl, rfl⟩; clear hdone)
            | (go_at_call 129; refine (hd1).mono ?_; rintro e w' ⟨rfl, rfl⟩; have hdone := trivial))
          go_round
          case rel => exact ⟨m, by omega, by go_num, fun j h1 => by
            by_cases h3 : j = m
            · subst h3; rw [HX.out, HY.out]; omega
            · exact HZ.out j (by omega)⟩
          case measure => simp [intOf]
  · have e1 : n = xs.length := by rw [← hn]; unfold maxN; rw [if_neg hlt]
    clear hn
    subst e1
    go_enter Tryz.func107, Tryz.ntmps107
    go_wp2
    go_loop [6] (fun i => ∃ k : Nat, k ≤ xs.length ∧ i = .int .i64 ((k : Int) - 1) ∧ ∀ j, k ≤ j → xs.getD j 0 = ys.getD j 0) (fun i => (intOf i + 1).toNat)
    case atStart => exact ⟨xs.length, Nat.le_refl _, by go_num, fun j h1 => by rw [List.getD, List.getD, List.getElem?_eq_none (by omega), List.getElem?_eq_none (by omega)]⟩
    case round =>
      obtain ⟨k, hk, rfl, hz⟩ := hrel
      cases k with
      | zero =>
        have HE : Hid (c = 0) := by
          have h1 := D.val_ext xs ys (fun j => hz j (Nat.zero_le _)); have h2 := HC.out
          unfold cmpI at h2; rw [if_neg (by omega), if_neg (by omega)] at h2; exact h2.symm
        clear hz
        simp only [Int.ofNat_zero, Int.zero_sub]
        go_wp2
        go_ret
        exact ⟨by rw [HE.out]; rfl, rfl⟩
      | succ m =>
        have em : (((m + 1 : Nat) : Int) - 1) = (m : Int) := by omega
        rw [em]
        clear em
        obtain ⟨x, hx⟩ : ∃ x, xs.getD m 0 = x := ⟨_, rfl⟩
        obtain ⟨y, hy⟩ : ∃ y, ys.getD m 0 = y := ⟨_, rfl⟩
        have HZ : Hid (∀ j, m + 1 ≤ j → xs.getD j 0 = ys.getD j 0) := hz
        have HX : Hid (xs.getD m 0 = x) := hx
        have HY : Hid (ys.getD m 0 = y) := hy
        have HT : Hid (x < y → c = -1) := fun hlt => by
          have h1 := D.val_lt_of m xs ys ux uy (fun j hj => hz j (by omega)) (by rw [hx, hy]; exact hlt)
          have h2 := HC.out; unfold cmpI at h2; rw [if_pos h1] at h2; exact h2.symm
        have HG : Hid (y < x → c = 1) := fun hlt => by
          have h1 := D.val_lt_of m ys xs uy ux (fun j hj => (hz j (by omega)).symm) (by rw [hx, hy]; exact hlt)
          have h2 := HC.out; unfold cmpI at h2; rw [if_neg (by omega), if_pos h1] at h2; exact h2.symm
        clear hz hx hy
        have hd1 := digit_nat _ xs h (by omega) m (by omega) x HX.out
        have hd2 := digit_nat _ ys h' (by omega) m (by omega) y HY.out
        by_cases hxy : x < y
        · have hE : c = -1 := HT.out hxy
          subst hE
          go_wp2_with (first
            | (go_at_call 129; replace hdone := hdone; refine (hd2).mono ?_; rintro e w' ⟨rfl, rfl⟩; clear hdone)
            | (go_at_call 129; refine (hd1).mono ?_; rintro e w' ⟨rfl, rfl⟩; have hdone := trivial))
          go_ret
          exact ⟨rfl, rfl⟩
        by_cases hyx : y < x
        · have hE : c = 1 := HG.out hyx
          subst hE
          go_wp2_with (first
            | (go_at_call 129; replace hdone := hdone; refine (hd2).mono ?_; rintro e w' ⟨rfl, rfl⟩; clear hdone)
            | (go_at_call 129; refine (hd1).mono ?_; rintro e w' ⟨rfl, rfl⟩; have hdone := trivial))
          go_ret
          exact ⟨rfl, rfl⟩
        · go_wp2_with (first
            | (go_at_call 129; replace hdone := hdone; refine (hd2).mono ?_; rintro e w' ⟨rfl, rfl⟩; clear hdone)
            | (go_at_call 129; refine (hd1).mono ?_; rintro e w' ⟨rfl, rfl⟩; have hdone := trivial))
          go_round
          case rel => exact ⟨m, by omega, by go_num, fun j h1 => by
            by_cases h3 : j = m
            · subst h3; rw [HX.out, HY.out]; omega
            · exact HZ.out j (by omega)⟩
          case measure => simp [intOf]
end Go.Proofs.YtillkhjihggcjaaGreatDoor.Nt
/-
  The walks of the reference's Digits and Limbs.
-/
namespace Go.Proofs.YtillkhjihggcjaaGreatDoor.Nt
open Go.RowKit

theorem Tryz.info64 : (Tryz.prog.info? 136).map (fun i => (i.zero, i.size, i.bytes)) = some (some (.int .u64 0), 1, 8) := by kernel_rfl
theorem Tryz.und64 : Tryz.prog.underlying 148 = some (.slice 136) := by kernel_rfl
theorem and16 (x : Int) (h0 : 0 ≤ x) (h1 : x < 4294967296) : bits BinOp.and .u32 x 65535 = x % 65536 := by go_bits2
/-- New memory in digits: a result. -/
abbrev Dg (w w' : World) (v : Value) (N : Int) : Prop := Sl .u64 w' v (D.lim N.toNat) ∧ Below w.heap.size w w'

set_option maxHeartbeats 2000000 in
theorem Digits_any {w : World} (v : Value) (X : List Int) (hX : Sl .u32 w v X) (uX : U32s X) (hl : X.length ≤ 8796093022208) (N : Int) (hN : val X = N) :
    Calls Tryz.prog 83 #[v] w fun e w' => ∃ r, e = .returned r ∧ Sl .u64 w' r (D.lim N.toNat) ∧ Below w.heap.size w w' := by
  have hX0 := hX
  obtain ⟨a, c, hv, hc⟩ := hX.len
  subst hv
  have HN : Hid (val X = N) := hN
  clear hN
  go_enter Tryz.func83, Tryz.ntmps83
  go_wp2
  go_loopw [3, 4] (fun o i wr => ∃ k : Nat, k ≤ X.length ∧ i = .int .i64 k ∧ Row .u64 136 w.heap.size wr o (split (X.take k)) ∧ Below w.heap.size w wr) (fun _ i _ => X.length - (intOf i).toNat)
  case atStart => exact ⟨0, by omega, rfl, Row.nil _ _ _ _, Below.refl _ _⟩
  case round =>
    obtain ⟨k, hk, rfl, hrow, hBt⟩ := hrel
    by_cases hlt : k < X.length
    · obtain ⟨x, hx⟩ : ∃ x, X.getD k 0 = x := ⟨_, rfl⟩
      have ux : U32 x := hx ▸ uX.at k
      obtain ⟨ux1, ux2⟩ := ux
      obtain ⟨b, off, ha, hb, hr⟩ : ∃ b off, a = some ⟨b, off, none⟩ ∧ b < w.heap.size ∧ Rd .u32 w b off X := by
        obtain ⟨a', c', h1, _, h2⟩ := hX0
        cases h1
        rcases h2 with rfl | ⟨b, off, rfl, hb, hr⟩
        · simp at hlt
        · exact ⟨b, off, rfl, hb, hr⟩
      subst ha
      have hcx : wr.cell? ⟨b, off + k, none⟩ = some (.int .u32 x) := by rw [hBt.cell hb, hr k hlt, hx]
      have e1 := and16 x ux1 ux2
      have hw1 : IntKind.u64.wrap (x % 65536) = x % 65536 := by rw [IntKind.wrap_u64]; omega
      have hw2 : IntKind.u64.wrap (x / 65536) = x / 65536 := by rw [IntKind.wrap_u64]; omega
      have HH : Hid (X.getD k 0 = x ∧ Below w.heap.size w wr) := ⟨hx, hBt⟩
      have hsz : w.heap.size ≤ wr.heap.size := hBt.size
      have hlen : (split (X.take k)).length = 2 * k := by rw [split_length]; simp; omega
      have HL : Hid ((split (X.take k)).length = 2 * k) := hlen
      have hk0 : (0 : Int) ≤ (k : Int) := by omega
      have hkl : (k : Int) < (X.length : Int) := by omega
      clear hx hr hX hX0 hBt hlen
      go_wp2
      go_region_held3 (fun w' => w'.cell? ⟨b, off + k, none⟩ = some (.int .u32 x)) (first | go_keep | (rw [hB1.cell hb]; go_keep))
        ((refine step_ap (by rfl) (.tmp 11) (.tmp 24) 148 148 (by rfl) .u64 136 8 Tryz.und64 Tryz.info64 (by decide) w.heap.size _ (split (X.take k)) (by rfl) (Row.alloc (by assumption) _) _ [x % 65536, x / 65536] (by rfl) (src_sl Tryz.und64 (Arr.sl64 (S := [x % 65536, x / 65536]) (arr_new rfl rfl))) (by rw [HL.out]; show (2 * k + 2) * 8 ≤ _; omega) (by simp; omega) ?_; intro v1 w1 hr1 hg1; have hB1 := hg1.below (Row.alloc (by assumption) _) (by simp; omega)))
      all_goals go_wp2
      go_roundw
      case rel =>
        obtain ⟨hx, hBt⟩ := HH.out
        refine ⟨k + 1, by omega, by go_num, ?_, (al hBt).drew.trans hB1⟩
        rw [split_snoc X hlt, hx]; exact hr1
      case measure => simp [intOf]; omega
    · have hfull : X.take k = X := List.take_of_length_le (by omega)
      rw [hfull] at hrow
      have hs := hrow.sl
      clear hfull hX hX0 hrow
      go_wp2_with (go_at_call 106; refine (plain_sl _ (split X) hs (split_u16 uX) (by rw [split_length]; omega) N (by rw [split_val]; exact HN.out)).mono ?_; rintro e w' ⟨r, rfl, hr, rfl⟩)
      go_ret
      exact ⟨r, rfl, hr, hBt⟩

set_option maxHeartbeats 2000000 in
theorem Limbs_any {w : World} (v : Value) (Ds : List Int) (hD : Sl .u64 w v Ds) (uD : D.U16s Ds) (hl : Ds.length ≤ 1073741824) (N : Int) (hN : D.val Ds = N) :
    Calls Tryz.prog 82 #[v] w fun e w' => ∃ r, e = .returned r ∧ Sl .u32 w' r (lim N.toNat) ∧ Below w.heap.size w w' := by
  have hN0 : 0 ≤ N := hN ▸ D.val_nonneg uD
  have hL : (D.lim N.toNat).length ≤ 1073741824 := by
    have h1 := D.take_sig_lim uD; have h2 := D.sig_le Ds
    rw [hN] at h1; rw [← h1]; simp; omega
  obtain ⟨Es, hE⟩ : ∃ Es, D.lim N.toNat = Es := ⟨_, rfl⟩
  have HE : Hid (D.lim N.toNat = Es) := hE
  have uE : D.U16s Es := hE ▸ D.lim_u16 _
  have HN : Hid (D.val Ds = N) := hN
  rw [hE] at hL
  clear hE hN
  go_enter Tryz.func82, Tryz.ntmps82
  go_wp2_with (go_at_call 106; refine (plain_sl _ Ds hD uD (by omega) N HN.out).mono ?_; rintro e w' ⟨r, rfl, hr, rfl⟩; rw [HE.out] at hr; obtain ⟨a, c, hv, hc⟩ := hr.len; subst hv)
  go_loopw [3, 4] (fun o i wr => ∃ j : Nat, j % 2 = 0 ∧ j ≤ Es.length + 1 ∧ i = .int .i64 j ∧ Row .u32 119 w.heap.size wr o (join (Es.take j)) ∧ Below w.heap.size w wr) (fun _ i _ => Es.length + 1 - (intOf i).toNat)
  case atStart => exact ⟨0, rfl, by omega, rfl, Row.nil _ _ _ _, Below.refl _ _⟩
  case round =>
    obtain ⟨j, hj2, hj, rfl, hrow, hBt⟩ := hrel
    by_cases hlt : j < Es.length
    · obtain ⟨y, hy⟩ : ∃ y, Es.getD j 0 = y := ⟨_, rfl⟩
      obtain ⟨z, hz⟩ : ∃ z, Es.getD (j + 1) 0 = z := ⟨_, rfl⟩
      have uy : D.U16 y := hy ▸ uE.at j
      have uz : D.U16 z := hz ▸ uE.at (j + 1)
      obtain ⟨uy1, uy2⟩ := uy
      obtain ⟨uz1, uz2⟩ := uz
      obtain ⟨b, off, ha, hb, hrd⟩ : ∃ b off, a = some ⟨b, off, none⟩ ∧ b < w.heap.size ∧ Rd .u64 w b off Es := by
        obtain ⟨a', c', h1, _, h2⟩ := hr
        cases h1
        rcases h2 with rfl | ⟨b, off, rfl, hb, hr⟩
        · simp at hlt
        · exact ⟨b, off, rfl, hb, hr⟩
      subst ha
      have hcy : wr.cell? ⟨b, off + j, none⟩ = some (.int .u64 y) := by rw [hBt.cell hb, hrd j hlt, hy]
      have hsz : w.heap.size ≤ wr.heap.size := hBt.size
      have hlen : (join (Es.take j)).length ≤ j := by have := join_length_le _ (Es.take j) (Nat.le_refl _); simp at this; omega
      have HL : Hid ((join (Es.take j)).length ≤ j) := hlen
      have hsn : join (Es.take (j + 2)) = join (Es.take j) ++ [y + 65536 * z] := by
        have := join_snoc (j / 2) Es (by omega)
        rw [show 2 * (j / 2 + 1) = j + 2 by omega, show 2 * (j / 2) = j by omega, hy, hz] at this; exact this
      have HH : Hid (join (Es.take (j + 2)) = join (Es.take j) ++ [y + 65536 * z] ∧ Below w.heap.size w wr) := ⟨hsn, hBt⟩
      by_cases hlt2 : j + 1 < Es.length
      · have hcz : wr.cell? ⟨b, off + (j + 1), none⟩ = some (.int .u64 z) := by rw [hBt.cell hb, hrd (j + 1) hlt2, hz]
        clear hy hz hrd hsn hr hBt hlen
        go_wp2_with (at_builtin; refine wpList_ap rfl (.tmp 33) (.tmp 35) 40 40 rfl .u32 119 4 Tryz.und32 Tryz.info32 (by decide) w.heap.size _ (join (Es.take j)) (by rfl) (hrow.alloc _) _ [y + 65536 * z] (by rfl) (src_sl Tryz.und32 (Arr.sl (S := [y + 65536 * z]) (arr_new rfl (by simp; omega)))) (by have := HL.out; simp only [List.length_singleton]; omega) (by simp; omega) ?_; intro v1 w1 hr1 hg1; have hB1 := hg1.below (hrow.alloc _) (by simp; omega))
        go_roundw
        case rel => exact ⟨j + 2, by omega, by omega, by go_num, by rw [HH.out.1]; exact hr1, (al HH.out.2).trans hB1⟩
        case measure => simp [intOf]; omega
      · have hz0 : z = 0 := by rw [← hz]; simp [List.getD, List.getElem?_eq_none (show Es.length ≤ j + 1 by omega)]
        subst hz0
        clear hy hz hrd hsn hr hBt hlen
        go_wp2_with (at_builtin; refine wpList_ap rfl (.tmp 33) (.tmp 35) 40 40 rfl .u32 119 4 Tryz.und32 Tryz.info32 (by decide) w.heap.size _ (join (Es.take j)) (by rfl) (hrow.alloc _) _ [y + 65536 * 0] (by rfl) (src_sl Tryz.und32 (Arr.sl (S := [y + 65536 * 0]) (arr_new rfl (by simp)))) (by have := HL.out; simp only [List.length_singleton]; omega) (by simp; omega) ?_; intro v1 w1 hr1 hg1; have hB1 := hg1.below (hrow.alloc _) (by simp; omega))
        go_roundw
        case rel => exact ⟨j + 2, by omega, by omega, by go_num, by rw [HH.out.1]; exact hr1, (al HH.out.2).trans hB1⟩
        case measure => simp [intOf]; omega
    · have hfull : Es.take j = Es := List.take_of_length_le (by omega)
      rw [hfull] at hrow
      have hs := hrow.sl
      rw [← HE.out, join_lim] at hs
      obtain ⟨a', c', hv, _⟩ := hs.len
      subst hv
      clear hfull hrow hr
      go_wp2
      go_ret
      exact ⟨_, rfl, hs, hBt⟩
end Go.Proofs.YtillkhjihggcjaaGreatDoor.Nt
/-
  The walks of the reference's add and sub.
-/
namespace Go.Proofs.YtillkhjihggcjaaGreatDoor.Nt
open Go.RowKit

end Go.Proofs.YtillkhjihggcjaaGreatDoor.Nt
/-
  The walk of the reference's sub.
-/
namespace Go.Proofs.YtillkhjihggcjaaGreatDoor.Nt
open Go.RowKit

theorem Row.same {k : IntKind} {e : TypeId} {B : Nat} {w w' : World} {v : Value} {xs : List Int} (h : Row k e B w v xs) (he : w'.heap = w.heap) : Row k e B w' v xs := by
  rcases h with h | ⟨b, S, rfl, h1, hA, h2⟩
  · exact .inl h
  · exact .inr ⟨b, S, rfl, h1, by unfold Arr; rw [he]; exact hA, h2⟩
end Go.Proofs.YtillkhjihggcjaaGreatDoor.Nt
/-
  The walk of the reference's mul.
-/
namespace Go.Proofs.YtillkhjihggcjaaGreatDoor.D
theorem add_step (P c x y a v u : Int) (T : Int) (hT : T = c + (x * y + a)) (ih : v + P * c = u) :
    (v + P * (T % 65536)) + (65536 * P) * (T / 65536) = u + P * a + x * (P * y) := by
  have h1 : T % 65536 + 65536 * (T / 65536) = T := by omega
  have h2 : P * (T % 65536) + (65536 * P) * (T / 65536) = P * T := by
    rw [← h1, Int.mul_add]; congr 1
    · rw [h1]
    · rw [h1, Int.mul_comm 65536 P, Int.mul_assoc]
  have h3 : P * T = P * c + (P * (x * y) + P * a) := by rw [hT, Int.mul_add, Int.mul_add]
  have h4 : x * (P * y) = P * (x * y) := by rw [← Int.mul_assoc, Int.mul_comm x P, Int.mul_assoc]
  omega

theorem val_set {S : List Int} {i : Nat} (h : i < S.length) (z : Int) : val (S.set i z) = val S + 65536 ^ i * (z - S.getD i 0) := by
  induction S generalizing i with
  | nil => simp at h
  | cons x S ih =>
    cases i with
    | zero => simp [val]; omega
    | succ i =>
      have := ih (i := i) (by simpa using h)
      simp only [List.set_cons_succ, val, this, pow_succ16, Int.mul_add, Int.mul_assoc]
      simp only [List.getD_cons_succ]; omega

theorem mid_val {S Z : List Int} {i : Nat} (h : i + Z.length ≤ S.length) :
    val (S.take i ++ Z ++ S.drop (i + Z.length)) = val S + 65536 ^ i * (val Z - val ((S.drop i).take Z.length)) := by
  have e : val S = val (S.take i) + 65536 ^ i * (val ((S.drop i).take Z.length) + 65536 ^ Z.length * val (S.drop (i + Z.length))) := by
    conv => lhs; rw [← List.take_append_drop i S, ← List.take_append_drop Z.length (S.drop i)]
    rw [val_append, val_append, List.length_take, List.length_take, Nat.min_eq_left (by omega), Nat.min_eq_left (by simp; omega), List.drop_drop]
  rw [e, List.append_assoc, val_append, val_append, List.length_take, Nat.min_eq_left (by omega), Int.mul_sub, Int.mul_add, Int.mul_add]; omega
end Go.Proofs.YtillkhjihggcjaaGreatDoor.D
namespace Go.Proofs.YtillkhjihggcjaaGreatDoor.Nt
open Go.RowKit

end Go.Proofs.YtillkhjihggcjaaGreatDoor.Nt
/-
  The walks of the reference's long, Trim, Cmp, Add, Sub, Mul: they answer what the program's functions answer.
-/
namespace Go.Proofs.YtillkhjihggcjaaGreatDoor.Nt
open Go.RowKit

/-- A number and an error, as two results, in whatever memory. -/
def RTwo (w : World) (e : Ending) (s : List Int × Int) : Prop := ∃ r, e = .returned (.tuple #[r, .int .i64 s.2]) ∧ Sl .u32 w r s.1
theorem RTwo.nil' {w : World} {n : Int} {s : List Int × Int} (hs : s = ([], n)) : RTwo w (.returned (.tuple #[.slice none 0 0, .int .i64 n])) s := by
  subst hs; exact ⟨_, rfl, ⟨none, 0, rfl, Nat.le_refl _, .inl rfl⟩⟩
theorem RTwo.mk' {w : World} {r : Value} {n : Int} {L : List Int} {s : List Int × Int} (h : Sl .u32 w r L) (hs : s = (L, n)) : RTwo w (.returned (.tuple #[r, .int .i64 n])) s := by
  subst hs; exact ⟨r, rfl, h⟩
theorem pow16_32 (n : Nat) : (65536 : Int) ^ (2 * n) = 4294967296 ^ n := by rw [Int.pow_mul]; rfl

theorem RTrim_any {w : World} (v : Value) (X : List Int) (hX : Sl .u32 w v X) (uX : U32s X) (hl : X.length ≤ 268435456) (N : Int) (hN : val X = N) :
    Calls Tryz.prog 88 #[v] w fun e w' => ∃ r, e = .returned r ∧ Sl .u32 w' r (lim N.toNat) ∧ Below w.heap.size w w' := by
  have nN : 0 ≤ N := hN ▸ val_nonneg uX
  have bX := val_lt uX
  rw [hN] at bX
  have dN : (D.lim N.toNat).length ≤ 2 * X.length := D.lim_fits nN (by rw [pow16_32]; exact bX)
  have HX : Hid (val X = N) := hN
  have HV : Hid (D.val (D.lim N.toNat) = N) := D.val_limI nN
  have hBt : Below w.heap.size w w := Below.refl _ _
  clear hN bX nN
  go_enter Tryz.func88, Tryz.ntmps88
  go_wp2_with (first
    | (go_at_call 83; refine (Digits_any _ X hX uX (by omega) N HX.out).mono ?_; rintro e w' ⟨p, rfl, hp, hB⟩; replace hBt := grow0 hBt hB)
    | (go_at_call 82; refine (Limbs_any _ _ hp (D.lim_u16 _) (by omega) N HV.out).mono ?_; rintro e w' ⟨o, rfl, ho, hB⟩; replace hBt := grow0 hBt hB))
  go_ret
  exact ⟨_, rfl, ho, hBt⟩

theorem RCmp_any {w : World} (v u : Value) (X Y : List Int) (hX : Sl .u32 w v X) (hY : Sl .u32 w u Y) (uX : U32s X) (uY : U32s Y) (lX : X.length ≤ 268435456) (lY : Y.length ≤ 268435456) (c : Int) (hc : cmpI (val X) (val Y) = c) :
    Calls Tryz.prog 85 #[v, u] w fun e w' => e = .returned (.int .i64 c) ∧ Below w.heap.size w w' := by
  have hBt : Below w.heap.size w w := Below.refl _ _
  obtain ⟨NX, hNX⟩ : ∃ n, val X = n := ⟨_, rfl⟩
  obtain ⟨NY, hNY⟩ : ∃ n, val Y = n := ⟨_, rfl⟩
  have HX : Hid (val X = NX) := hNX
  have HY : Hid (val Y = NY) := hNY
  have nX : 0 ≤ NX := hNX ▸ val_nonneg uX
  have nY : 0 ≤ NY := hNY ▸ val_nonneg uY
  have bX := val_lt uX; have bY := val_lt uY
  rw [hNX] at bX; rw [hNY] at bY
  have dX : (D.lim NX.toNat).length ≤ 2 * X.length := D.lim_fits nX (by rw [pow16_32]; exact bX)
  have dY : (D.lim NY.toNat).length ≤ 2 * Y.length := D.lim_fits nY (by rw [pow16_32]; exact bY)
  have HC : Hid (cmpI (D.val (D.lim NX.toNat)) (D.val (D.lim NY.toNat)) = c) := by rw [D.val_limI nX, D.val_limI nY, ← hNX, ← hNY]; exact hc
  clear hNX hNY bX bY nX nY hc
  go_enter Tryz.func85, Tryz.ntmps85
  go_wp2_with (first
    | (go_at_call 83; replace hp := hp; refine (Digits_any _ Y hY uY (by omega) NY HY.out).mono ?_; rintro e w' ⟨q, rfl, hq, hB⟩; replace hp := below_sl hB hp; replace hBt := grow0 hBt hB)
    | (go_at_call 83; refine (Digits_any _ X hX uX (by omega) NX HX.out).mono ?_; rintro e w' ⟨p, rfl, hp, hB⟩; replace hY := below_sl hB hY; replace hBt := grow0 hBt hB)
    | (go_at_call 107; refine (order_any _ _ _ _ hp hq (D.lim_u16 _) (D.lim_u16 _) (by omega) (by omega) c HC.out).mono ?_; rintro e w' ⟨rfl, rfl⟩))
  go_ret
  exact ⟨rfl, hBt⟩

end Go.Proofs.YtillkhjihggcjaaGreatDoor.Nt
/-
  The walk of the reference's Bits.
-/
namespace Go.Proofs.YtillkhjihggcjaaGreatDoor.D
end Go.Proofs.YtillkhjihggcjaaGreatDoor.D
namespace Go.Proofs.YtillkhjihggcjaaGreatDoor.Nt
open Go.RowKit

theorem and1_64 (x : Int) (h0 : 0 ≤ x) (h1 : x < 18446744073709551616) : bits BinOp.and .u64 x 1 = x % 2 := by go_bits2
theorem bitLen_eq {n k : Nat} (h : n < 2 ^ (k + 1)) (h1 : n / 2 ^ k % 2 = 1) : bitLen n = k + 1 := by
  have h2 := bitLen_lt h
  have h3 := (bitLen_spec n).1
  have hge : 2 ^ k ≤ n := by
    apply Decidable.byContradiction; intro hc
    rw [Nat.div_eq_of_lt (by omega)] at h1; simp at h1
  apply Decidable.byContradiction; intro hc
  have : 2 ^ bitLen n ≤ 2 ^ k := Nat.pow_le_pow_right (by decide) (by omega)
  omega
theorem lt_half {n k : Nat} (h : n < 2 ^ (k + 1)) (h1 : n / 2 ^ k % 2 = 0) : n < 2 ^ k := by
  have h2 : n / 2 ^ k < 2 := Nat.div_lt_of_lt_mul (by rw [Nat.pow_succ] at h; exact h)
  have h3 : n / 2 ^ k = 0 := by
    generalize n / 2 ^ k = t at h1 h2
    omega
  rcases Nat.div_eq_zero_iff.1 h3 with h4 | h4
  · have : 0 < 2 ^ k := Nat.pow_pos (by decide)
    omega
  · exact h4

set_option maxHeartbeats 2000000 in
theorem RBits_any {w : World} (v : Value) (X : List Int) (hX : Sl .u32 w v X) (uX : U32s X) (hl : X.length ≤ 268435456) (N : Int) (hN : val X = N) :
    Calls Tryz.prog 62 #[v] w fun e w' => e = .returned (.int .i64 (bitLen N.toNat)) ∧ Below w.heap.size w w' := by
  have nN : 0 ≤ N := hN ▸ val_nonneg uX
  have bX := val_lt uX
  rw [hN] at bX
  obtain ⟨Ds, hDs⟩ : ∃ Ds, D.lim N.toNat = Ds := ⟨_, rfl⟩
  have dN : Ds.length ≤ 2 * X.length := by rw [← hDs]; exact D.lim_fits nN (by rw [pow16_32]; exact bX)
  have uD : D.U16s Ds := hDs ▸ D.lim_u16 _
  have vD : D.val Ds = N := by rw [← hDs]; exact D.val_limI nN
  have HX : Hid (val X = N) := hN
  have HD : Hid (D.lim N.toNat = Ds) := hDs
  have HV : Hid (D.U16s Ds ∧ D.val Ds = N) := ⟨uD, vD⟩
  have HST : Hid (N.toNat < 2 ^ (16 * Ds.length)) := by
    have h1 := D.val_lt uD
    rw [vD] at h1
    have h2 : ((N.toNat : Nat) : Int) < ((2 ^ (16 * Ds.length) : Nat) : Int) := by
      rw [Int.toNat_of_nonneg nN, Int.natCast_pow, Int.pow_mul]; exact h1
    exact Int.ofNat_lt.1 h2
  have hBt : Below w.heap.size w w := Below.refl _ _
  clear hN bX nN hDs uD vD
  go_enter Tryz.func62, Tryz.ntmps62
  go_wp2_with (go_at_call 83; refine (Digits_any _ X hX uX (by omega) N HX.out).mono ?_; rintro e w1 ⟨p, rfl, hp, hB⟩; rw [HD.out] at hp; replace hBt := grow0 hBt hB; obtain ⟨ap, cp, hvp, _⟩ := hp.len; subst hvp)
  go_loop [4] (fun i => ∃ k : Nat, i = .int .i64 k ∧ k ≤ 16 * Ds.length ∧ Hid (N.toNat < 2 ^ k)) (fun i => (intOf i).toNat)
  case atStart => exact ⟨16 * Ds.length, by go_num, Nat.le_refl _, HST.out⟩
  case round =>
    clear HST
    obtain ⟨k, rfl, hk, HK⟩ := hrel
    cases k with
    | zero =>
      have HZ : Hid (bitLen N.toNat = 0) := by
        have h1 := HK.out
        have h2 : N.toNat = 0 := by simpa using h1
        rw [h2]; rfl
      clear HK
      go_wp2
      go_ret
      exact ⟨by rw [HZ.out]; rfl, hBt⟩
    | succ m =>
      obtain ⟨b, off, ha, hb, hrd⟩ : ∃ b off, ap = some ⟨b, off, none⟩ ∧ b < w1.heap.size ∧ Rd .u64 w1 b off Ds := by
        obtain ⟨a', c', h1, _, h2⟩ := id hp
        cases h1
        rcases h2 with rfl | ⟨b, off, rfl, hb, hr⟩
        · simp at hk
        · exact ⟨b, off, rfl, hb, hr⟩
      subst ha
      obtain ⟨q, hq⟩ : ∃ q, m / 16 = q := ⟨_, rfl⟩
      obtain ⟨s, hs⟩ : ∃ s, m % 16 = s := ⟨_, rfl⟩
      obtain ⟨y, hy⟩ : ∃ y, Ds.getD q 0 = y := ⟨_, rfl⟩
      have uy : D.U16 y := hy ▸ HV.out.1.at _
      obtain ⟨uy1, uy2⟩ := uy
      have hcy : w1.cell? ⟨b, off + q, none⟩ = some (.int .u64 y) := by rw [hrd q (by omega), hy]
      have HB : Hid (N.toNat / 2 ^ m % 2 = y.toNat / 2 ^ s % 2) := by
        show N.toNat / 2 ^ m % 2 = y.toNat / 2 ^ s % 2
        rw [← D.bit_eq, hq, hs, ← HV.out.2, D.getD_div Ds q HV.out.1, hy]
      have hmi : (m : Int) / 16 = q := by omega
      have hsi : (m : Int) % 16 = s := by omega
      have hs16 : s < 16 := by omega
      have hqD : q < Ds.length := by omega
      have hp2 : 0 < (2 : Int) ^ s := Int.pow_pos (by decide)
      have hd0 : 0 ≤ y / 2 ^ s := Int.ediv_nonneg uy1 (Int.le_of_lt hp2)
      have hd1 : y / 2 ^ s < 18446744073709551616 := by have := Int.ediv_le_self (2 ^ s) uy1; omega
      have hand := and1_64 (y / 2 ^ s) hd0 hd1
      have hcast : ((y.toNat / 2 ^ s % 2 : Nat) : Int) = y / 2 ^ s % 2 := by
        obtain ⟨n, rfl⟩ := Int.eq_ofNat_of_zero_le uy1
        simp
      obtain ⟨bt, hbt⟩ : ∃ bt, y / 2 ^ s % 2 = bt := ⟨_, rfl⟩
      rw [hbt] at hand hcast
      have hb01 : bt = 0 ∨ bt = 1 := by omega
      have HB2 : Hid (N.toNat / 2 ^ m % 2 = bt.toNat) := by
        show N.toNat / 2 ^ m % 2 = bt.toNat
        rw [HB.out]; omega
      clear hq hs hy hbt hcast HB hrd
      rcases hb01 with rfl | rfl
      · go_wp2
        go_round
        case rel => exact ⟨m, by go_num, by omega, lt_half HK.out HB2.out⟩
        case measure => simp [intOf]
      · have HR : Hid (bitLen N.toNat = m + 1) := bitLen_eq HK.out HB2.out
        go_wp2
        go_ret
        exact ⟨by rw [HR.out]; rfl, hBt⟩
end Go.Proofs.YtillkhjihggcjaaGreatDoor.Nt
/-
  The reference's curves: far, fieldOf. (wip/mku23.py)
-/
namespace Go.Proofs.YtillkhjihggcjaaGreatDoor
open Go.RowKit
set_option maxRecDepth 20000
set_option maxHeartbeats 1000000 in
theorem RFar {w : World} (vx vy : Value) (X Y : List Int) (hX : Sl .u32 w vx X) (hY : Sl .u32 w vy Y) (uX : U32s X) (uY : U32s Y) (lX : X.length ≤ 1000000) (lY : Y.length ≤ 1000000) :
    Calls Tryz.prog 65 #[.agg #[vx, vy]] w fun e w' => e = .returned (.bool (farB X Y)) ∧ Below w.heap.size w w' := by
  have HX : Hid (∀ W, Below w.heap.size w W → Calls Tryz.prog 62 #[vx] W fun e w' => e = .returned (.int .i64 (bitLen (val X).toNat)) ∧ Below W.heap.size W w') := fun W hW => (Nt.RBits_any vx X (below_sl hW hX) uX (by omega) (val X) rfl)
  have HY : Hid (∀ W, Below w.heap.size w W → Calls Tryz.prog 62 #[vy] W fun e w' => e = .returned (.int .i64 (bitLen (val Y).toNat)) ∧ Below W.heap.size W w') := fun W hW => (Nt.RBits_any vy Y (below_sl hW hY) uY (by omega) (val Y) rfl)
  have HF : Hid (farB X Y = (((bitLen (val X).toNat : Int) == 0) && ((bitLen (val Y).toNat : Int) == 0))) := by
    show _ = _
    unfold farB
    have h1 := bits0 uX
    have h2 := bits0 uY
    by_cases a : val X = 0 <;> by_cases b : val Y = 0
    · have e1 := h1.2 a; have e2 := h2.2 b; rw [e1, e2]; simp [a, b]
    · simp [a, b]; intro _; exact fun h => b (h2.1 (by omega))
    · simp [a, b]; intro h; exact absurd (h1.1 (by omega)) a
    · simp [a, b]; intro h; exact absurd (h1.1 (by omega)) a
  obtain ⟨x, hx⟩ : ∃ x, bitLen (val X).toNat = x := ⟨_, rfl⟩
  obtain ⟨y, hy⟩ : ∃ y, bitLen (val Y).toNat = y := ⟨_, rfl⟩
  rw [hx] at HX HF
  rw [hy] at HY HF
  clear hX hY uX uY lX lY hx hy
  go_enter Tryz.func65, Tryz.ntmps65
  go_upto_region 1 with (refine wpList_boxR rfl 44 (.tmp 0) rfl #[vx, vy] rfl ?_)
  refine wp_gen (fun W => Blk 44 W w.heap.size [vx, vy] ∧ Below w.heap.size w W) ⟨Blk.new _ w _, al1 _⟩ ?_
  rintro W2 ⟨hB, hBw⟩
  have hc0 : W2.cell? ⟨w.heap.size, 0, none⟩ = some vx := hB.cell 0
  have H2 : Hid (Below w.heap.size w W2 ∧ ∀ W3, Below W2.heap.size W2 W3 → W3.cell? ⟨w.heap.size, 1, none⟩ = some vy ∧ Below w.heap.size w W3) := ⟨hBw, fun W3 h3 => ⟨(below_blk h3 hB.lt hB).cell 1, below_via hBw h3 (Nat.le_refl _)⟩⟩
  clear hB hBw
  by_cases h0 : x = 0
  · have d0 : ((x : Int) == 0) = true := by simp [h0]
    have HF2 : Hid (farB X Y = ((y : Int) == 0)) := by show _ = _; rw [HF.out, d0]; rfl
    clear h0 HF
    go_wp2_with fail
    refine (HX.out _ H2.out.1).mono ?_
    rintro e w3 ⟨rfl, hb3⟩
    have hc1 := (H2.out.2 _ hb3).1
    have H3 : Hid (Below w.heap.size w w3) := (H2.out.2 _ hb3).2
    clear hb3 hc0
    go_wp2_with (go_at_call 62; refine (HY.out _ H3.out).mono ?_; rintro e w4 ⟨rfl, hb4⟩; have H4 : Hid (Below w.heap.size w w4) := below_via H3.out hb4 (Nat.le_refl _); clear hb4)
    go_ret
    exact ⟨by rw [HF2.out]; rfl, H4.out⟩
  · have d0 : ((x : Int) == 0) = false := by simp; exact h0
    have HF2 : Hid (farB X Y = false) := by show _ = _; rw [HF.out, d0]; rfl
    clear h0 HF
    go_wp2_with (go_at_call 62; refine (HX.out _ H2.out.1).mono ?_; rintro e w3 ⟨rfl, hb3⟩; have H3 : Hid (Below w.heap.size w w3) := (H2.out.2 _ hb3).2; clear hb3)
    go_ret
    exact ⟨by rw [HF2.out]; rfl, H3.out⟩
def f14 : List Value := .int .i64 0 :: z13
theorem newF (w : World) : Blk 156 (w.alloc (.cells f14.toArray 156)) w.heap.size f14 := Blk.new _ w f14
theorem Tryz.sizeFd : (Tryz.prog.info? 156).map (·.size) = some 14 := by kernel_rfl
theorem fdC_one (l : Nat) (P : List Int) : (fdC l P).toArray.all (·.oneCell') = true := by
  have h := ints_one .u64 P
  rw [List.all_toArray] at h ⊢
  unfold fdC
  rw [List.all_cons, h]
  rfl
theorem list13 {P : List Int} (h : P.length = 13) : ∃ p0 p1 p2 p3 p4 p5 p6 p7 p8 p9 p10 p11 p12, P = [p0, p1, p2, p3, p4, p5, p6, p7, p8, p9, p10, p11, p12] := by
  match P, h with
  | [p0, p1, p2, p3, p4, p5, p6, p7, p8, p9, p10, p11, p12], _ => exact ⟨p0, p1, p2, p3, p4, p5, p6, p7, p8, p9, p10, p11, p12, rfl⟩
set_option maxHeartbeats 2000000 in
theorem RFieldOf {w : World} (c : Int) : Calls Tryz.prog 86 #[.int .i64 c] w fun e w' => ∃ P, e = .returned (.agg (fdC (lim (crvN (·.p) (crv c))).length P).toArray) ∧ Dg P ∧ val P = (crvN (·.p) (crv c) : Nat) ∧ Below w.heap.size w w' := by
  go_enter Tryz.func86, Tryz.ntmps86
  go_wp2_with fail
  refine (RPrime_any c).mono ?_
  rintro e w3 ⟨r, rfl, hr, hb⟩
  obtain ⟨a, k, rfl⟩ := hr.form
  obtain ⟨l, hl⟩ : ∃ l, (lim (crvN (·.p) (crv c))).length = l := ⟨_, rfl⟩
  have hl12 : l ≤ 12 := hl ▸ (crv_sz c).2
  have H3 : Hid (Below w.heap.size w w3 ∧ Blk 156 w3 w.heap.size f14) := ⟨below_via (al1 _) hb (Nat.le_refl _), below_blk hb (newF w).lt (newF w)⟩
  have HL : Hid ((lim (crvN (·.p) (crv c))).length = l) := hl
  rw [hl]
  clear hr hb hl
  go_wp2_with fail
  refine (RPrime_any c).mono ?_
  rintro e w4 ⟨r4, rfl, hr4, hb4⟩
  have H4 : Hid (Below w.heap.size w w4 ∧ Blk 156 w4 w.heap.size f14 ∧ Nb w4 r4 (crvN (·.p) (crv c))) := ⟨below_via H3.out.1 hb4 (Nat.le_refl _), below_blk hb4 H3.out.2.lt H3.out.2, hr4⟩
  clear hr4 hb4 H3
  go_wp2_with fail
  refine (rof_any r4 _ H4.out.2.2 (lim_u32 _) (by have := (crv_sz c).2; omega)).mono ?_
  rintro e w5 ⟨P, rfl, dP, vP, hb5⟩
  have HP : Hid (Dg P ∧ val P = (crvN (·.p) (crv c) : Nat)) := ⟨dP, by rw [vP, List.take_of_length_le (crv_sz c).2, val_lim]⟩
  have H5 : Hid (Below w.heap.size w w5 ∧ Blk 156 w5 w.heap.size f14) := ⟨below_via H4.out.1 hb5 (Nat.le_refl _), below_blk hb5 H4.out.2.1.lt H4.out.2.1⟩
  obtain ⟨p0, p1, p2, p3, p4, p5, p6, p7, p8, p9, p10, p11, p12, rfl⟩ := list13 dP.2
  clear dP vP hb5 H4
  have hth : w5.there w.heap.size 0 (fdC l [p0, p1, p2, p3, p4, p5, p6, p7, p8, p9, p10, p11, p12]).toArray.size := H5.out.2.there 0 _ (by simp [fdC, f14, z13])
  have HTh : Hid (w5.there w.heap.size 0 (fdC l [p0, p1, p2, p3, p4, p5, p6, p7, p8, p9, p10, p11, p12]).toArray.size) := hth
  clear hth
  unfold dgA
  simp only [List.map_cons, List.map_nil]
  go_wp2_with (refine wpList_store_mid rfl _ _ _ rfl w.heap.size 0 (fdC l [p0, p1, p2, p3, p4, p5, p6, p7, p8, p9, p10, p11, p12]).toArray rfl rfl HTh.out Tryz.sizeFd (fdC_one _ _) ?_)
  exact bodyPost_ret (v := .agg (fdC l [p0, p1, p2, p3, p4, p5, p6, p7, p8, p9, p10, p11, p12]).toArray) (results_blk (b := w.heap.size) (cs := fdC l [p0, p1, p2, p3, p4, p5, p6, p7, p8, p9, p10, p11, p12]) rfl rfl (H5.out.2.fill _ rfl) Tryz.underlying156 rfl Tryz.sizeFd) rfl ⟨_, by rw [HL.out], HP.out.1, HP.out.2, (Upd.setCells _ 0 w5).below H5.out.1 H5.out.1.size (Nat.le_refl _)⟩
end Go.Proofs.YtillkhjihggcjaaGreatDoor
