/-
  The walk of the reference's order: which of two numbers in digits is greater.
-/
import Derived.Deep.CutRange
import Derived.Test.YtkdclocjijmgpaaK18
namespace Go.Proofs.Ytkdclocjijmgpaa.Nt
open Go.RowKit

def maxN (a b : Nat) : Nat := if a < b then b else a
set_option maxHeartbeats 1000000 in
theorem order_any {w : World} (v u : Value) (xs ys : List Int) (h : Sl .u64 w v xs) (h' : Sl .u64 w u ys) (ux : D.U16s xs) (uy : D.U16s ys) (hl : xs.length ≤ 1073741824) (hl' : ys.length ≤ 1073741824) (c : Int) (hc : cmpI (D.val xs) (D.val ys) = c) :
    Calls Try.prog 87 #[v, u] w fun e w' => e = .returned (.int .i64 c) ∧ w = w' := by
  obtain ⟨a, cp, hv, _⟩ := h.len
  obtain ⟨a', cp', hv', _⟩ := h'.len
  subst hv; subst hv'
  obtain ⟨n, hn⟩ : ∃ n, maxN xs.length ys.length = n := ⟨_, rfl⟩
  have hn1 : xs.length ≤ n := by rw [← hn]; unfold maxN; split <;> omega
  have hn2 : ys.length ≤ n := by rw [← hn]; unfold maxN; split <;> omega
  have HC : Hid (cmpI (D.val xs) (D.val ys) = c) := hc
  clear hc
  by_cases hlt : xs.length < ys.length
  · have e1 : n = ys.length := by rw [← hn]; unfold maxN; rw [if_pos hlt]
    clear hn
    subst e1
    go_enter Try.func87, Try.ntmps87
    go_wp2
    go_loop [6] (fun i => ∃ k : Nat, k ≤ ys.length ∧ i = .int .i64 ((k : Int) - 1) ∧ ∀ j, k ≤ j → xs.getD j 0 = ys.getD j 0) (fun i => (intOf i + 1).toNat)
    case atStart => exact ⟨ys.length, Nat.le_refl _, by go_num, fun j h1 => by rw [List.getD, List.getD, List.getElem?_eq_none (by omega), List.getElem?_eq_none (by omega)]⟩
    case round =>
      obtain ⟨k, hk, rfl, hz⟩ := hrel
      cases k with
      | zero =>
        have HE : Hid (c = 0) := by
          have h1 := D.val_ext xs ys (fun j => hz j (Nat.zero_le _)); have h2 := HC.out
          unfold cmpI at h2; rw [if_neg (by omega), if_neg (by omega)] at h2; exact h2.symm
        clear hz
        simp only [Int.ofNat_zero, Int.zero_sub]
        go_wp2
        go_ret
        exact ⟨by rw [HE.out]; rfl, rfl⟩
      | succ m =>
        have em : (((m + 1 : Nat) : Int) - 1) = (m : Int) := by omega
        rw [em]
        clear em
        obtain ⟨x, hx⟩ : ∃ x, xs.getD m 0 = x := ⟨_, rfl⟩
        obtain ⟨y, hy⟩ : ∃ y, ys.getD m 0 = y := ⟨_, rfl⟩
        have HZ : Hid (∀ j, m + 1 ≤ j → xs.getD j 0 = ys.getD j 0) := hz
        have HX : Hid (xs.getD m 0 = x) := hx
        have HY : Hid (ys.getD m 0 = y) := hy
        have HT : Hid (x < y → c = -1) := fun hlt => by
          have h1 := D.val_lt_of m xs ys ux uy (fun j hj => hz j (by omega)) (by rw [hx, hy]; exact hlt)
          have h2 := HC.out; unfold cmpI at h2; rw [if_pos h1] at h2; exact h2.symm
        have HG : Hid (y < x → c = 1) := fun hlt => by
          have h1 := D.val_lt_of m ys xs uy ux (fun j hj => (hz j (by omega)).symm) (by rw [hx, hy]; exact hlt)
          have h2 := HC.out; unfold cmpI at h2; rw [if_neg (by omega), if_pos h1] at h2; exact h2.symm
        clear hz hx hy
        have hd1 := digit_nat _ xs h (by omega) m (by omega) x HX.out
        have hd2 := digit_nat _ ys h' (by omega) m (by omega) y HY.out
        by_cases hxy : x < y
        · have hE : c = -1 := HT.out hxy
          subst hE
          go_wp2_with (first
            | (go_at_call 95; replace hdone := hdone; refine (hd2).mono ?_; rintro e w' ⟨rfl, rfl⟩; clear hdone)
            | (go_at_call 95; refine (hd1).mono ?_; rintro e w' ⟨rfl, rfl⟩; have hdone := trivial))
          go_ret
          exact ⟨rfl, rfl⟩
        by_cases hyx : y < x
        · have hE : c = 1 := HG.out hyx
          subst hE
          go_wp2_with (first
            | (go_at_call 95; replace hdone := hdone; refine (hd2).mono ?_; rintro e w' ⟨rfl, rfl⟩; clear hdone)
            | (go_at_call 95; refine (hd1).mono ?_; rintro e w' ⟨rfl, rfl⟩; have hdone := trivial))
          go_ret
          exact ⟨rfl, rfl⟩
        · go_wp2_with (first
            | (go_at_call 95; replace hdone := hdone; refine (hd2).mono ?_; rintro e w' ⟨rfl, rfl⟩; clear hdone)
            | (go_at_call 95; refine (hd1).mono ?_; rintro e w' ⟨rfl, rfl⟩; have hdone := trivial))
          go_round
          case rel => exact ⟨m, by omega, by go_num, fun j h1 => by
            by_cases h3 : j = m
            · subst h3; rw [HX.out, HY.out]; omega
            · exact HZ.out j (by omega)⟩
          case measure => simp [intOf]
  · have e1 : n = xs.length := by rw [← hn]; unfold maxN; rw [if_neg hlt]
    clear hn
    subst e1
    go_enter Try.func87, Try.ntmps87
    go_wp2
    go_loop [6] (fun i => ∃ k : Nat, k ≤ xs.length ∧ i = .int .i64 ((k : Int) - 1) ∧ ∀ j, k ≤ j → xs.getD j 0 = ys.getD j 0) (fun i => (intOf i + 1).toNat)
    case atStart => exact ⟨xs.length, Nat.le_refl _, by go_num, fun j h1 => by rw [List.getD, List.getD, List.getElem?_eq_none (by omega), List.getElem?_eq_none (by omega)]⟩
    case round =>
      obtain ⟨k, hk, rfl, hz⟩ := hrel
      cases k with
      | zero =>
        have HE : Hid (c = 0) := by
          have h1 := D.val_ext xs ys (fun j => hz j (Nat.zero_le _)); have h2 := HC.out
          unfold cmpI at h2; rw [if_neg (by omega), if_neg (by omega)] at h2; exact h2.symm
        clear hz
        simp only [Int.ofNat_zero, Int.zero_sub]
        go_wp2
        go_ret
        exact ⟨by rw [HE.out]; rfl, rfl⟩
      | succ m =>
        have em : (((m + 1 : Nat) : Int) - 1) = (m : Int) := by omega
        rw [em]
        clear em
        obtain ⟨x, hx⟩ : ∃ x, xs.getD m 0 = x := ⟨_, rfl⟩
        obtain ⟨y, hy⟩ : ∃ y, ys.getD m 0 = y := ⟨_, rfl⟩
        have HZ : Hid (∀ j, m + 1 ≤ j → xs.getD j 0 = ys.getD j 0) := hz
        have HX : Hid (xs.getD m 0 = x) := hx
        have HY : Hid (ys.getD m 0 = y) := hy
        have HT : Hid (x < y → c = -1) := fun hlt => by
          have h1 := D.val_lt_of m xs ys ux uy (fun j hj => hz j (by omega)) (by rw [hx, hy]; exact hlt)
          have h2 := HC.out; unfold cmpI at h2; rw [if_pos h1] at h2; exact h2.symm
        have HG : Hid (y < x → c = 1) := fun hlt => by
          have h1 := D.val_lt_of m ys xs uy ux (fun j hj => (hz j (by omega)).symm) (by rw [hx, hy]; exact hlt)
          have h2 := HC.out; unfold cmpI at h2; rw [if_neg (by omega), if_pos h1] at h2; exact h2.symm
        clear hz hx hy
        have hd1 := digit_nat _ xs h (by omega) m (by omega) x HX.out
        have hd2 := digit_nat _ ys h' (by omega) m (by omega) y HY.out
        by_cases hxy : x < y
        · have hE : c = -1 := HT.out hxy
          subst hE
          go_wp2_with (first
            | (go_at_call 95; replace hdone := hdone; refine (hd2).mono ?_; rintro e w' ⟨rfl, rfl⟩; clear hdone)
            | (go_at_call 95; refine (hd1).mono ?_; rintro e w' ⟨rfl, rfl⟩; have hdone := trivial))
          go_ret
          exact ⟨rfl, rfl⟩
        by_cases hyx : y < x
        · have hE : c = 1 := HG.out hyx
          subst hE
          go_wp2_with (first
            | (go_at_call 95; replace hdone := hdone; refine (hd2).mono ?_; rintro e w' ⟨rfl, rfl⟩; clear hdone)
            | (go_at_call 95; refine (hd1).mono ?_; rintro e w' ⟨rfl, rfl⟩; have hdone := trivial))
          go_ret
          exact ⟨rfl, rfl⟩
        · go_wp2_with (first
            | (go_at_call 95; replace hdone := hdone; refine (hd2).mono ?_; rintro e w' ⟨rfl, rfl⟩; clear hdone)
            | (go_at_call 95; refine (hd1).mono ?_; rintro e w' ⟨rfl, rfl⟩; have hdone := trivial))
          go_round
          case rel => exact ⟨m, by omega, by go_num, fun j h1 => by
            by_cases h3 : j = m
            · subst h3; rw [HX.out, HY.out]; omega
            · exact HZ.out j (by omega)⟩
          case measure => simp [intOf]
end Go.Proofs.Ytkdclocjijmgpaa.Nt
/-
  The walks of the reference's Digits and Limbs.
-/
namespace Go.Proofs.Ytkdclocjijmgpaa.Nt
open Go.RowKit

theorem Try.info64 : (Try.prog.info? 62).map (fun i => (i.zero, i.size, i.bytes)) = some (some (.int .u64 0), 1, 8) := by kernel_rfl
theorem Try.und64 : Try.prog.underlying 97 = some (.slice 62) := by kernel_rfl
theorem and16 (x : Int) (h0 : 0 ≤ x) (h1 : x < 4294967296) : bits BinOp.and .u32 x 65535 = x % 65536 := by go_bits2
theorem _root_.Go.Proofs.Ytkdclocjijmgpaa.Arr.sl64 {w : World} {b : Nat} {S : List Int} (h : Arr .u64 62 w b S) : Sl .u64 w (.slice (some ⟨b, 0, none⟩) S.length S.length) S :=
  ⟨_, _, rfl, Nat.le_refl _, .inr ⟨b, 0, rfl, h.lt, by have := h.rd 0 S.length (by omega); rw [List.drop_zero, List.take_length] at this; exact this⟩⟩
/-- New memory in digits: a result. -/
abbrev Dg (w w' : World) (v : Value) (N : Int) : Prop := Sl .u64 w' v (D.lim N.toNat) ∧ Below w.heap.size w w'

set_option maxHeartbeats 2000000 in
theorem Digits_any {w : World} (v : Value) (X : List Int) (hX : Sl .u32 w v X) (uX : U32s X) (hl : X.length ≤ 8796093022208) (N : Int) (hN : val X = N) :
    Calls Try.prog 71 #[v] w fun e w' => ∃ r, e = .returned r ∧ Sl .u64 w' r (D.lim N.toNat) ∧ Below w.heap.size w w' := by
  have hX0 := hX
  obtain ⟨a, c, hv, hc⟩ := hX.len
  subst hv
  have HN : Hid (val X = N) := hN
  clear hN
  go_enter Try.func71, Try.ntmps71
  go_wp2
  go_loopw [3, 4] (fun o i wr => ∃ k : Nat, k ≤ X.length ∧ i = .int .i64 k ∧ Row .u64 62 w.heap.size wr o (split (X.take k)) ∧ Below w.heap.size w wr) (fun _ i _ => X.length - (intOf i).toNat)
  case atStart => exact ⟨0, by omega, rfl, Row.nil _ _ _ _, Below.refl _ _⟩
  case round =>
    obtain ⟨k, hk, rfl, hrow, hBt⟩ := hrel
    by_cases hlt : k < X.length
    · obtain ⟨x, hx⟩ : ∃ x, X.getD k 0 = x := ⟨_, rfl⟩
      have ux : U32 x := hx ▸ uX.at k
      obtain ⟨ux1, ux2⟩ := ux
      obtain ⟨b, off, ha, hb, hr⟩ : ∃ b off, a = some ⟨b, off, none⟩ ∧ b < w.heap.size ∧ Rd .u32 w b off X := by
        obtain ⟨a', c', h1, _, h2⟩ := hX0
        cases h1
        rcases h2 with rfl | ⟨b, off, rfl, hb, hr⟩
        · simp at hlt
        · exact ⟨b, off, rfl, hb, hr⟩
      subst ha
      have hcx : wr.cell? ⟨b, off + k, none⟩ = some (.int .u32 x) := by rw [hBt.cell hb, hr k hlt, hx]
      have e1 := and16 x ux1 ux2
      have hw1 : IntKind.u64.wrap (x % 65536) = x % 65536 := by rw [IntKind.wrap_u64]; omega
      have hw2 : IntKind.u64.wrap (x / 65536) = x / 65536 := by rw [IntKind.wrap_u64]; omega
      have HH : Hid (X.getD k 0 = x ∧ Below w.heap.size w wr) := ⟨hx, hBt⟩
      have hsz : w.heap.size ≤ wr.heap.size := hBt.size
      have hlen : (split (X.take k)).length = 2 * k := by rw [split_length]; simp; omega
      have HL : Hid ((split (X.take k)).length = 2 * k) := hlen
      have hk0 : (0 : Int) ≤ (k : Int) := by omega
      have hkl : (k : Int) < (X.length : Int) := by omega
      clear hx hr hX hX0 hBt hlen
      go_wp2
      go_region_held3 (fun w' => w'.cell? ⟨b, off + k, none⟩ = some (.int .u32 x)) (first | go_keep | (rw [hB1.cell hb]; go_keep))
        ((refine step_ap (by rfl) (.tmp 11) (.tmp 24) 97 97 (by rfl) .u64 62 8 Try.und64 Try.info64 (by decide) w.heap.size _ (split (X.take k)) (by rfl) (Row.alloc (by assumption) _) _ [x % 65536, x / 65536] (by rfl) (src_sl Try.und64 (Arr.sl64 (S := [x % 65536, x / 65536]) (arr_new rfl rfl))) (by rw [HL.out]; show (2 * k + 2) * 8 ≤ _; omega) (by simp; omega) ?_; intro v1 w1 hr1 hg1; have hB1 := hg1.below (Row.alloc (by assumption) _) (by simp; omega)))
      all_goals go_wp2
      go_roundw
      case rel =>
        obtain ⟨hx, hBt⟩ := HH.out
        refine ⟨k + 1, by omega, by go_num, ?_, (al hBt).drew.trans hB1⟩
        rw [split_snoc X hlt, hx]; exact hr1
      case measure => simp [intOf]; omega
    · have hfull : X.take k = X := List.take_of_length_le (by omega)
      rw [hfull] at hrow
      have hs := hrow.sl
      clear hfull hX hX0 hrow
      go_wp2_with (go_at_call 94; refine (plain_sl _ (split X) hs (split_u16 uX) (by rw [split_length]; omega) N (by rw [split_val]; exact HN.out)).mono ?_; rintro e w' ⟨r, rfl, hr, rfl⟩)
      go_ret
      exact ⟨r, rfl, hr, hBt⟩

set_option maxHeartbeats 2000000 in
theorem Limbs_any {w : World} (v : Value) (Ds : List Int) (hD : Sl .u64 w v Ds) (uD : D.U16s Ds) (hl : Ds.length ≤ 1073741824) (N : Int) (hN : D.val Ds = N) :
    Calls Try.prog 69 #[v] w fun e w' => ∃ r, e = .returned r ∧ Sl .u32 w' r (lim N.toNat) ∧ Below w.heap.size w w' := by
  have hN0 : 0 ≤ N := hN ▸ D.val_nonneg uD
  have hL : (D.lim N.toNat).length ≤ 1073741824 := by
    have h1 := D.take_sig_lim uD; have h2 := D.sig_le Ds
    rw [hN] at h1; rw [← h1]; simp; omega
  obtain ⟨Es, hE⟩ : ∃ Es, D.lim N.toNat = Es := ⟨_, rfl⟩
  have HE : Hid (D.lim N.toNat = Es) := hE
  have uE : D.U16s Es := hE ▸ D.lim_u16 _
  have HN : Hid (D.val Ds = N) := hN
  rw [hE] at hL
  clear hE hN
  go_enter Try.func69, Try.ntmps69
  go_wp2_with (go_at_call 94; refine (plain_sl _ Ds hD uD (by omega) N HN.out).mono ?_; rintro e w' ⟨r, rfl, hr, rfl⟩; rw [HE.out] at hr; obtain ⟨a, c, hv, hc⟩ := hr.len; subst hv)
  go_loopw [3, 4] (fun o i wr => ∃ j : Nat, j % 2 = 0 ∧ j ≤ Es.length + 1 ∧ i = .int .i64 j ∧ Row .u32 45 w.heap.size wr o (join (Es.take j)) ∧ Below w.heap.size w wr) (fun _ i _ => Es.length + 1 - (intOf i).toNat)
  case atStart => exact ⟨0, rfl, by omega, rfl, Row.nil _ _ _ _, Below.refl _ _⟩
  case round =>
    obtain ⟨j, hj2, hj, rfl, hrow, hBt⟩ := hrel
    by_cases hlt : j < Es.length
    · obtain ⟨y, hy⟩ : ∃ y, Es.getD j 0 = y := ⟨_, rfl⟩
      obtain ⟨z, hz⟩ : ∃ z, Es.getD (j + 1) 0 = z := ⟨_, rfl⟩
      have uy : D.U16 y := hy ▸ uE.at j
      have uz : D.U16 z := hz ▸ uE.at (j + 1)
      obtain ⟨uy1, uy2⟩ := uy
      obtain ⟨uz1, uz2⟩ := uz
      obtain ⟨b, off, ha, hb, hrd⟩ : ∃ b off, a = some ⟨b, off, none⟩ ∧ b < w.heap.size ∧ Rd .u64 w b off Es := by
        obtain ⟨a', c', h1, _, h2⟩ := hr
        cases h1
        rcases h2 with rfl | ⟨b, off, rfl, hb, hr⟩
        · simp at hlt
        · exact ⟨b, off, rfl, hb, hr⟩
      subst ha
      have hcy : wr.cell? ⟨b, off + j, none⟩ = some (.int .u64 y) := by rw [hBt.cell hb, hrd j hlt, hy]
      have hsz : w.heap.size ≤ wr.heap.size := hBt.size
      have hlen : (join (Es.take j)).length ≤ j := by have := join_length_le _ (Es.take j) (Nat.le_refl _); simp at this; omega
      have HL : Hid ((join (Es.take j)).length ≤ j) := hlen
      have hsn : join (Es.take (j + 2)) = join (Es.take j) ++ [y + 65536 * z] := by
        have := join_snoc (j / 2) Es (by omega)
        rw [show 2 * (j / 2 + 1) = j + 2 by omega, show 2 * (j / 2) = j by omega, hy, hz] at this; exact this
      have HH : Hid (join (Es.take (j + 2)) = join (Es.take j) ++ [y + 65536 * z] ∧ Below w.heap.size w wr) := ⟨hsn, hBt⟩
      by_cases hlt2 : j + 1 < Es.length
      · have hcz : wr.cell? ⟨b, off + (j + 1), none⟩ = some (.int .u64 z) := by rw [hBt.cell hb, hrd (j + 1) hlt2, hz]
        clear hy hz hrd hsn hr hBt hlen
        go_wp2_with (at_builtin; refine wpList_ap rfl (.tmp 33) (.tmp 35) 22 22 rfl .u32 45 4 Try.und32 Try.info32 (by decide) w.heap.size _ (join (Es.take j)) (by rfl) (hrow.alloc _) _ [y + 65536 * z] (by rfl) (src_sl Try.und32 (Arr.sl (S := [y + 65536 * z]) (arr_new rfl (by simp; omega)))) (by have := HL.out; simp only [List.length_singleton]; omega) (by simp; omega) ?_; intro v1 w1 hr1 hg1; have hB1 := hg1.below (hrow.alloc _) (by simp; omega))
        go_roundw
        case rel => exact ⟨j + 2, by omega, by omega, by go_num, by rw [HH.out.1]; exact hr1, (al HH.out.2).trans hB1⟩
        case measure => simp [intOf]; omega
      · have hz0 : z = 0 := by rw [← hz]; simp [List.getD, List.getElem?_eq_none (show Es.length ≤ j + 1 by omega)]
        subst hz0
        clear hy hz hrd hsn hr hBt hlen
        go_wp2_with (at_builtin; refine wpList_ap rfl (.tmp 33) (.tmp 35) 22 22 rfl .u32 45 4 Try.und32 Try.info32 (by decide) w.heap.size _ (join (Es.take j)) (by rfl) (hrow.alloc _) _ [y + 65536 * 0] (by rfl) (src_sl Try.und32 (Arr.sl (S := [y + 65536 * 0]) (arr_new rfl (by simp)))) (by have := HL.out; simp only [List.length_singleton]; omega) (by simp; omega) ?_; intro v1 w1 hr1 hg1; have hB1 := hg1.below (hrow.alloc _) (by simp; omega))
        go_roundw
        case rel => exact ⟨j + 2, by omega, by omega, by go_num, by rw [HH.out.1]; exact hr1, (al HH.out.2).trans hB1⟩
        case measure => simp [intOf]; omega
    · have hfull : Es.take j = Es := List.take_of_length_le (by omega)
      rw [hfull] at hrow
      have hs := hrow.sl
      rw [← HE.out, join_lim] at hs
      obtain ⟨a', c', hv, _⟩ := hs.len
      subst hv
      clear hfull hrow hr
      go_wp2
      go_ret
      exact ⟨_, rfl, hs, hBt⟩
end Go.Proofs.Ytkdclocjijmgpaa.Nt
/-
  The walks of the reference's add and sub.
-/
namespace Go.Proofs.Ytkdclocjijmgpaa.Nt
open Go.RowKit

theorem carry_step (P c x y Z A B : Int) (h : Z + P * c = A + B) : Z + P * ((x + y + c) % 65536) + 65536 * P * ((x + y + c) / 65536) = A + P * x + (B + P * y) := by
  have h1 := Int.mul_ediv_add_emod (x + y + c) 65536
  have h2 : P * ((x + y + c) % 65536) + 65536 * P * ((x + y + c) / 65536) = P * (65536 * ((x + y + c) / 65536) + (x + y + c) % 65536) := by grind
  rw [h1] at h2
  grind
theorem borrow_step (P c x y Z A B : Int) (h : Z = A - B + P * c) : Z + P * ((65536 + x - y - c) % 65536) = A + P * x - (B + P * y) + 65536 * P * (1 - (65536 + x - y - c) / 65536) := by
  have h1 := Int.mul_ediv_add_emod (65536 + x - y - c) 65536
  have h2 : P * ((65536 + x - y - c) % 65536) = P * (65536 + x - y - c) - 65536 * P * ((65536 + x - y - c) / 65536) := by
    rw [← h1]; grind
  rw [h2, h]; grind
theorem getD_out (xs : List Int) {n : Nat} (h : xs.length ≤ n) : xs.getD n 0 = 0 := by simp [List.getD, List.getElem?_eq_none h]

set_option maxHeartbeats 2000000 in
theorem add_any {w : World} (v u : Value) (A B : List Int) (hA : Sl .u64 w v A) (hB : Sl .u64 w u B) (uA : D.U16s A) (uB : D.U16s B) (lA : A.length ≤ 1073741824) (lB : B.length ≤ 1073741824) (N : Int) (hN : D.val A + D.val B = N) :
    Calls Try.prog 86 #[v, u] w fun e w' => ∃ r, e = .returned r ∧ Sl .u64 w' r (D.lim N.toNat) ∧ Below w.heap.size w w' := by
  have hA0 := hA; have hB0 := hB
  obtain ⟨a, ca, hv, _⟩ := hA.len
  obtain ⟨b, cb, hu, _⟩ := hB.len
  subst hv; subst hu
  have HN : Hid (D.val A + D.val B = N) := hN
  clear hN hA hB
  go_enter Try.func86, Try.ntmps86
  go_wp2
  go_loopw [5, 6, 7] (fun o t i wr => ∃ Z c, Row .u64 62 w.heap.size wr o Z ∧ t = .int .u64 c ∧ 0 ≤ c ∧ c ≤ 1 ∧ i = .int .i64 Z.length ∧ D.U16s Z ∧ D.val Z + 65536 ^ Z.length * c = D.val (A.take Z.length) + D.val (B.take Z.length) ∧
      Z.length ≤ maxN A.length B.length + 1 ∧ (Z.length = maxN A.length B.length + 1 → c = 0) ∧ Below w.heap.size w wr) (fun _ _ i _ => maxN A.length B.length + 1 - (intOf i).toNat)
  case atStart => exact ⟨[], 0, Row.nil _ _ _ _, rfl, by decide, by decide, rfl, D.U16s.nil, by simp [D.val], by simp, by simp, Below.refl _ _⟩
  case round =>
    obtain ⟨Z, c, hrow, rfl, hc0, hc1, rfl, uZ, heq, hle, hend, hBt⟩ := hrel
    have hmx : A.length ≤ maxN A.length B.length ∧ B.length ≤ maxN A.length B.length ∧ maxN A.length B.length ≤ 1073741824 := by unfold maxN; split <;> omega
    obtain ⟨hm1, hm2, hm3⟩ := hmx
    obtain ⟨M, hM⟩ : ∃ M, maxN A.length B.length = M := ⟨_, rfl⟩
    rw [hM] at hle hend hm1 hm2 hm3 ⊢
    clear hM
    obtain ⟨n, hn⟩ : ∃ n, Z.length = n := ⟨_, rfl⟩
    obtain ⟨x, hx⟩ : ∃ x, A.getD n 0 = x := ⟨_, rfl⟩
    obtain ⟨y, hy⟩ : ∃ y, B.getD n 0 = y := ⟨_, rfl⟩
    have ux : D.U16 x := hx ▸ uA.at n
    have uy : D.U16 y := hy ▸ uB.at n
    obtain ⟨ux1, ux2⟩ := ux
    obtain ⟨uy1, uy2⟩ := uy
    have hsz : w.heap.size ≤ wr.heap.size := hBt.size
    by_cases hgo : n < A.length ∨ n < B.length ∨ 0 < c
    · have hnM : n < M + 1 := by
        rcases hgo with h | h | h
        · omega
        · omega
        · have : n ≠ M + 1 := fun h' => by have := hend (by omega); omega
          omega
      have hend' : n = M → (x + y + c) / 65536 = 0 := fun h => by
        have h1 : x = 0 := by rw [← hx]; exact getD_out A (by omega)
        have h2 : y = 0 := by rw [← hy]; exact getD_out B (by omega)
        omega
      have hd1 := digit_nat _ A (below_sl hBt hA0) (by omega) n (by omega) x hx
      have hd2 := digit_nat _ B (below_sl hBt hB0) (by omega) n (by omega) y hy
      have HH : Hid (A.getD n 0 = x ∧ B.getD n 0 = y ∧ D.val Z + 65536 ^ Z.length * c = D.val (A.take Z.length) + D.val (B.take Z.length) ∧ Below w.heap.size w wr ∧ D.U16s Z ∧ Z.length = n ∧ (n = M → (x + y + c) / 65536 = 0)) := ⟨hx, hy, heq, hBt, uZ, hn, hend'⟩
      rw [hn] at hle ⊢
      clear hx hy heq hBt uZ hend hend' hA0 hB0
      have hzl : Z.length ≤ 1073741826 := by omega
      clear hn
      by_cases h1 : n < A.length
      · go_wp2_with (first
          | (go_at_call 95; replace hdone := hdone; refine (hd2).mono ?_; rintro e w' ⟨rfl, rfl⟩; clear hdone)
          | (go_at_call 95; refine (hd1).mono ?_; rintro e w' ⟨rfl, rfl⟩; have hdone := trivial)
          | (at_builtin; refine wpList_ap rfl (.tmp 34) (.tmp 37) 97 97 rfl .u64 62 8 Try.und64 Try.info64 (by decide) w.heap.size _ Z (by rfl) (hrow.alloc _) _ [(x + y + c) % 65536] (by rfl) (src_sl Try.und64 (Arr.sl64 (S := [(x + y + c) % 65536]) (arr_new rfl rfl))) (by simp only [List.length_singleton]; omega) (by simp; omega) ?_; intro v1 w1 hr1 hg1; have hB1 := hg1.below (hrow.alloc _) (by simp; omega)))
        go_roundw
        case rel =>
          obtain ⟨hx, hy, heq, hBt, uZ, hkz, hend⟩ := HH.out
          refine ⟨Z ++ [(x + y + c) % 65536], (x + y + c) / 65536, hr1, by go_num, by omega, by omega, by rw [List.length_append, hkz]; go_num, uZ.append (D.U16s.cons ⟨by omega, by omega⟩ D.U16s.nil), ?_, by rw [List.length_append, hkz]; simp; omega, fun h => ?_, (al hBt).trans hB1⟩
          · rw [D.val_snoc, List.length_append, List.length_singleton, D.pow_succ16, hkz, D.val_take_succ, D.val_take_succ, hx, hy]
            rw [hkz] at heq
            have := carry_step (65536 ^ n) c x y (D.val Z) _ _ heq
            rw [this]
          · rw [List.length_append, hkz] at h
            simp at h
            exact hend h
        case measure => simp [intOf]; omega
      by_cases h2 : n < B.length
      · go_wp2_with (first
          | (go_at_call 95; replace hdone := hdone; refine (hd2).mono ?_; rintro e w' ⟨rfl, rfl⟩; clear hdone)
          | (go_at_call 95; refine (hd1).mono ?_; rintro e w' ⟨rfl, rfl⟩; have hdone := trivial)
          | (at_builtin; refine wpList_ap rfl (.tmp 34) (.tmp 37) 97 97 rfl .u64 62 8 Try.und64 Try.info64 (by decide) w.heap.size _ Z (by rfl) (hrow.alloc _) _ [(x + y + c) % 65536] (by rfl) (src_sl Try.und64 (Arr.sl64 (S := [(x + y + c) % 65536]) (arr_new rfl rfl))) (by simp only [List.length_singleton]; omega) (by simp; omega) ?_; intro v1 w1 hr1 hg1; have hB1 := hg1.below (hrow.alloc _) (by simp; omega)))
        go_roundw
        case rel =>
          obtain ⟨hx, hy, heq, hBt, uZ, hkz, hend⟩ := HH.out
          refine ⟨Z ++ [(x + y + c) % 65536], (x + y + c) / 65536, hr1, by go_num, by omega, by omega, by rw [List.length_append, hkz]; go_num, uZ.append (D.U16s.cons ⟨by omega, by omega⟩ D.U16s.nil), ?_, by rw [List.length_append, hkz]; simp; omega, fun h => ?_, (al hBt).trans hB1⟩
          · rw [D.val_snoc, List.length_append, List.length_singleton, D.pow_succ16, hkz, D.val_take_succ, D.val_take_succ, hx, hy]
            rw [hkz] at heq
            have := carry_step (65536 ^ n) c x y (D.val Z) _ _ heq
            rw [this]
          · rw [List.length_append, hkz] at h
            simp at h
            exact hend h
        case measure => simp [intOf]; omega
      · have h3 : 0 < c := by omega
        go_wp2_with (first
          | (go_at_call 95; replace hdone := hdone; refine (hd2).mono ?_; rintro e w' ⟨rfl, rfl⟩; clear hdone)
          | (go_at_call 95; refine (hd1).mono ?_; rintro e w' ⟨rfl, rfl⟩; have hdone := trivial)
          | (at_builtin; refine wpList_ap rfl (.tmp 34) (.tmp 37) 97 97 rfl .u64 62 8 Try.und64 Try.info64 (by decide) w.heap.size _ Z (by rfl) (hrow.alloc _) _ [(x + y + c) % 65536] (by rfl) (src_sl Try.und64 (Arr.sl64 (S := [(x + y + c) % 65536]) (arr_new rfl rfl))) (by simp only [List.length_singleton]; omega) (by simp; omega) ?_; intro v1 w1 hr1 hg1; have hB1 := hg1.below (hrow.alloc _) (by simp; omega)))
        go_roundw
        case rel =>
          obtain ⟨hx, hy, heq, hBt, uZ, hkz, hend⟩ := HH.out
          refine ⟨Z ++ [(x + y + c) % 65536], (x + y + c) / 65536, hr1, by go_num, by omega, by omega, by rw [List.length_append, hkz]; go_num, uZ.append (D.U16s.cons ⟨by omega, by omega⟩ D.U16s.nil), ?_, by rw [List.length_append, hkz]; simp; omega, fun h => ?_, (al hBt).trans hB1⟩
          · rw [D.val_snoc, List.length_append, List.length_singleton, D.pow_succ16, hkz, D.val_take_succ, D.val_take_succ, hx, hy]
            rw [hkz] at heq
            have := carry_step (65536 ^ n) c x y (D.val Z) _ _ heq
            rw [this]
          · rw [List.length_append, hkz] at h
            simp at h
            exact hend h
        case measure => simp [intOf]; omega
    · have h1 : ¬ n < A.length := by omega
      have h2 : ¬ n < B.length := by omega
      have h3 : c = 0 := by omega
      subst h3
      have hs := hrow.sl
      have HV : Hid (D.val Z = N) := by
        rw [hn, List.take_of_length_le (by omega), List.take_of_length_le (by omega), Int.mul_zero, Int.add_zero] at heq
        exact heq.trans HN.out
      have hzl : Z.length ≤ 1073741826 := by omega
      rw [hn]
      clear heq hx hy hend hrow hA0 hB0 hgo hn
      go_wp2_with (go_at_call 94; refine (plain_sl _ Z hs uZ (by omega) N HV.out).mono ?_; rintro e w' ⟨r, rfl, hr, rfl⟩)
      go_ret
      exact ⟨r, rfl, hr, hBt⟩
end Go.Proofs.Ytkdclocjijmgpaa.Nt
/-
  The walk of the reference's sub.
-/
namespace Go.Proofs.Ytkdclocjijmgpaa.Nt
open Go.RowKit

theorem Row.same {k : IntKind} {e : TypeId} {B : Nat} {w w' : World} {v : Value} {xs : List Int} (h : Row k e B w v xs) (he : w'.heap = w.heap) : Row k e B w' v xs := by
  rcases h with h | ⟨b, S, rfl, h1, hA, h2⟩
  · exact .inl h
  · exact .inr ⟨b, S, rfl, h1, by unfold Arr; rw [he]; exact hA, h2⟩
theorem dr {a w : World} {n : Nat} (h : Below a.heap.size a w) : Below a.heap.size a (w.drewN n) := h.trans ⟨rfl, rfl, rfl, Nat.le_refl _, fun _ _ => rfl⟩
theorem take_val_le {A B : List Int} (uA : D.U16s A) (uB : D.U16s B) (h : D.val B ≤ D.val A) : D.val (B.take A.length) = D.val B := by
  have h1 := D.val_lt uA
  by_cases hl : B.length ≤ A.length
  · rw [List.take_of_length_le hl]
  · have e : D.val B = D.val (B.take A.length) + 65536 ^ A.length * D.val (B.drop A.length) := by
      conv => lhs; rw [← List.take_append_drop A.length B]
      rw [D.val_append, List.length_take, Nat.min_eq_left (by omega)]
    have h2 := D.val_nonneg (uB.take A.length)
    have h3 := D.val_nonneg (uB.drop A.length)
    have h4 := D.pow_pos16 A.length
    by_cases h5 : D.val (B.drop A.length) = 0
    · rw [e, h5]; omega
    · have : 65536 ^ A.length * 1 ≤ 65536 ^ A.length * D.val (B.drop A.length) := Int.mul_le_mul_of_nonneg_left (by omega) (by omega)
      omega

set_option maxHeartbeats 2000000 in
theorem sub_new {w : World} (v u : Value) (A B : List Int) (hA : Sl .u64 w v A) (hB : Sl .u64 w u B) (uA : D.U16s A) (uB : D.U16s B) (lA : A.length ≤ 1073741824) (lB : B.length ≤ 1073741824) (N : Int) (hN : D.val A - D.val B = N) (h0 : 0 ≤ N) :
    Calls Try.prog 70 #[v, u] w fun e w' => ∃ r, e = .returned r ∧ SlN .u64 w.heap.size w' r (D.lim N.toNat) ∧ Below w.heap.size w w' := by
  have hA0 := hA; have hB0 := hB
  obtain ⟨a, ca, hv, _⟩ := hA.len
  obtain ⟨bb, cb, hu, _⟩ := hB.len
  subst hv; subst hu
  have HN : Hid (D.val A - D.val B = N ∧ 0 ≤ N) := ⟨hN, h0⟩
  clear hN hA hB h0
  go_enter Try.func70, Try.ntmps70
  go_wp2
  go_loopw [5, 6, 7] (fun o t i wr => ∃ Z c, Row .u64 62 w.heap.size wr o Z ∧ t = .int .u64 c ∧ 0 ≤ c ∧ c ≤ 1 ∧ i = .int .i64 Z.length ∧ D.U16s Z ∧ D.val Z = D.val (A.take Z.length) - D.val (B.take Z.length) + 65536 ^ Z.length * c ∧
      Z.length ≤ A.length ∧ Below w.heap.size w wr) (fun _ _ i _ => A.length - (intOf i).toNat)
  case atStart => exact ⟨[], 0, Row.nil _ _ _ _, rfl, by decide, by decide, rfl, D.U16s.nil, by simp [D.val], by simp, Below.refl _ _⟩
  case round =>
    obtain ⟨Z, c, hrow, rfl, hc0, hc1, rfl, uZ, heq, hle, hBt⟩ := hrel
    obtain ⟨n, hn⟩ : ∃ n, Z.length = n := ⟨_, rfl⟩
    obtain ⟨x, hx⟩ : ∃ x, A.getD n 0 = x := ⟨_, rfl⟩
    obtain ⟨y, hy⟩ : ∃ y, B.getD n 0 = y := ⟨_, rfl⟩
    have ux : D.U16 x := hx ▸ uA.at n
    have uy : D.U16 y := hy ▸ uB.at n
    obtain ⟨ux1, ux2⟩ := ux
    obtain ⟨uy1, uy2⟩ := uy
    have hsz : w.heap.size ≤ wr.heap.size := hBt.size
    by_cases hlt : n < A.length
    · obtain ⟨b, off, ha, hb, hrd⟩ : ∃ b off, a = some ⟨b, off, none⟩ ∧ b < w.heap.size ∧ Rd .u64 w b off A := by
        obtain ⟨a', c', h1, _, h2⟩ := hA0
        cases h1
        rcases h2 with rfl | ⟨b, off, rfl, hb, hr⟩
        · simp at hlt
        · exact ⟨b, off, rfl, hb, hr⟩
      subst ha
      have hcx : wr.cell? ⟨b, off + n, none⟩ = some (.int .u64 x) := by rw [hBt.cell hb, hrd n hlt, hx]
      have hd2 : ∀ q, Calls Try.prog 95 #[.slice bb B.length cb, .int .i64 n] (wr.drewN q) fun e w' => e = .returned (.int .u64 y) ∧ w' = wr.drewN q := fun q =>
        (digit_nat _ B (below_sl (hBt.trans ⟨rfl, rfl, rfl, Nat.le_refl _, fun _ _ => rfl⟩ : Below w.heap.size w (wr.drewN q)) hB0) (by omega) n (by omega) y hy).mono fun e w' h => ⟨h.1, h.2.symm⟩
      have HH : Hid (A.getD n 0 = x ∧ B.getD n 0 = y ∧ D.val Z = D.val (A.take Z.length) - D.val (B.take Z.length) + 65536 ^ Z.length * c ∧ Below w.heap.size w wr ∧ D.U16s Z ∧ Z.length = n) := ⟨hx, hy, heq, hBt, uZ, hn⟩
      rw [hn] at hle ⊢
      have hzl : Z.length ≤ 1073741826 := by omega
      clear hx hy heq hBt uZ hA0 hB0 hn hrd
      go_upto_region 6 with (fail)
      go_region_with (go_at_call 95; refine (hd2 _).mono ?_; rintro e w2 ⟨rfl, rfl⟩)
      all_goals
        go_wp2_with (at_builtin; refine wpList_ap rfl (.tmp 26) (.tmp 29) 97 97 rfl .u64 62 8 Try.und64 Try.info64 (by decide) w.heap.size _ Z (by rfl) (Row.alloc (hrow.same rfl) _) _ [(65536 + x - y - c) % 65536] (by rfl) (src_sl Try.und64 (Arr.sl64 (S := [(65536 + x - y - c) % 65536]) (arr_new rfl rfl))) (by simp only [List.length_singleton]; omega) (by simp; omega) ?_; intro v1 w1 hr1 hg1; have hB1 := hg1.below (Row.alloc (hrow.same rfl) _) (by simp; omega))
        go_roundw
        case rel =>
          obtain ⟨hx, hy, heq, hBt, uZ, hkz⟩ := HH.out
          refine ⟨Z ++ [(65536 + x - y - c) % 65536], 1 - (65536 + x - y - c) / 65536, hr1, by go_num, by omega, by omega, by rw [List.length_append, hkz]; go_num, uZ.append (D.U16s.cons ⟨by omega, by omega⟩ D.U16s.nil), ?_, by rw [List.length_append, hkz]; simp; omega, (al (dr hBt)).trans hB1⟩
          rw [D.val_snoc, List.length_append, List.length_singleton, D.pow_succ16, hkz, D.val_take_succ, D.val_take_succ, hx, hy]
          rw [hkz] at heq
          exact borrow_step (65536 ^ n) c x y (D.val Z) _ _ heq
        case measure => simp [intOf]; omega
    · have hs := hrow.sln
      have HV : Hid (D.val Z = N) := by
        obtain ⟨h1, h2⟩ := HN.out
        have hnA : n = A.length := by omega
        rw [hn, hnA, List.take_length, take_val_le uA uB (by omega)] at heq
        have h3 := D.val_lt uZ
        rw [hn, hnA] at h3
        have h4 := D.pow_pos16 A.length
        have hc : c = 0 := by
          apply Decidable.byContradiction
          intro hne
          have : c = 1 := by omega
          subst this
          omega
        rw [hc, Int.mul_zero, Int.add_zero, h1] at heq
        exact heq
      have hzl : Z.length ≤ 1073741826 := by omega
      rw [hn]
      clear heq hx hy hrow hA0 hB0 hn
      go_wp2_with (go_at_call 94; refine (plain_new _ Z hs uZ (by omega) N HV.out).mono ?_; rintro e w' ⟨r, rfl, hr, rfl⟩)
      go_ret
      exact ⟨r, rfl, hr, hBt⟩
theorem sub_any {w : World} (v u : Value) (A B : List Int) (hA : Sl .u64 w v A) (hB : Sl .u64 w u B) (uA : D.U16s A) (uB : D.U16s B) (lA : A.length ≤ 1073741824) (lB : B.length ≤ 1073741824) (N : Int) (hN : D.val A - D.val B = N) (h0 : 0 ≤ N) :
    Calls Try.prog 70 #[v, u] w fun e w' => ∃ r, e = .returned r ∧ Sl .u64 w' r (D.lim N.toNat) ∧ Below w.heap.size w w' :=
  (sub_new v u A B hA hB uA uB lA lB N hN h0).mono fun _ _ ⟨r, h1, h2, h3⟩ => ⟨r, h1, h2.sl, h3⟩
end Go.Proofs.Ytkdclocjijmgpaa.Nt
/-
  The walk of the reference's mul.
-/
namespace Go.Proofs.Ytkdclocjijmgpaa.D
theorem add_step (P c x y a v u : Int) (T : Int) (hT : T = c + (x * y + a)) (ih : v + P * c = u) :
    (v + P * (T % 65536)) + (65536 * P) * (T / 65536) = u + P * a + x * (P * y) := by
  have h1 : T % 65536 + 65536 * (T / 65536) = T := by omega
  have h2 : P * (T % 65536) + (65536 * P) * (T / 65536) = P * T := by
    rw [← h1, Int.mul_add]; congr 1
    · rw [h1]
    · rw [h1, Int.mul_comm 65536 P, Int.mul_assoc]
  have h3 : P * T = P * c + (P * (x * y) + P * a) := by rw [hT, Int.mul_add, Int.mul_add]
  have h4 : x * (P * y) = P * (x * y) := by rw [← Int.mul_assoc, Int.mul_comm x P, Int.mul_assoc]
  omega

theorem val_set {S : List Int} {i : Nat} (h : i < S.length) (z : Int) : val (S.set i z) = val S + 65536 ^ i * (z - S.getD i 0) := by
  induction S generalizing i with
  | nil => simp at h
  | cons x S ih =>
    cases i with
    | zero => simp [val]; omega
    | succ i =>
      have := ih (i := i) (by simpa using h)
      simp only [List.set_cons_succ, val, this, pow_succ16, Int.mul_add, Int.mul_assoc]
      simp only [List.getD_cons_succ]; omega

theorem mid_val {S Z : List Int} {i : Nat} (h : i + Z.length ≤ S.length) :
    val (S.take i ++ Z ++ S.drop (i + Z.length)) = val S + 65536 ^ i * (val Z - val ((S.drop i).take Z.length)) := by
  have e : val S = val (S.take i) + 65536 ^ i * (val ((S.drop i).take Z.length) + 65536 ^ Z.length * val (S.drop (i + Z.length))) := by
    conv => lhs; rw [← List.take_append_drop i S, ← List.take_append_drop Z.length (S.drop i)]
    rw [val_append, val_append, List.length_take, List.length_take, Nat.min_eq_left (by omega), Nat.min_eq_left (by simp; omega), List.drop_drop]
  rw [e, List.append_assoc, val_append, val_append, List.length_take, Nat.min_eq_left (by omega), Int.mul_sub, Int.mul_add, Int.mul_add]; omega
theorem mid_u16 {S Z : List Int} {i : Nat} (hS : U16s S) (hZ : U16s Z) : U16s (S.take i ++ Z ++ S.drop (i + Z.length)) := ((hS.take i).append hZ).append (hS.drop _)

end Go.Proofs.Ytkdclocjijmgpaa.D
namespace Go.Proofs.Ytkdclocjijmgpaa.Nt
open Go.RowKit

theorem mul_u16 {x y : Int} (hx : D.U16 x) (hy : D.U16 y) : 0 ≤ x * y ∧ x * y ≤ 4294836225 := by
  unfold D.U16 at hx hy
  refine ⟨Int.mul_nonneg hx.1 hy.1, ?_⟩
  calc x * y ≤ 65535 * y := Int.mul_le_mul_of_nonneg_right (by omega) hy.1
    _ ≤ 65535 * 65535 := Int.mul_le_mul_of_nonneg_left (by omega) (by decide)
    _ = _ := by decide

set_option maxHeartbeats 4000000 in
theorem mul_any {w : World} (v u : Value) (A B : List Int) (hA : Sl .u64 w v A) (hB : Sl .u64 w u B) (uA : D.U16s A) (uB : D.U16s B) (lA : A.length ≤ 1073741824) (lB : B.length ≤ 1073741824) (N : Int) (hN : D.val A * D.val B = N) :
    Calls Try.prog 85 #[v, u] w fun e w' => ∃ r, e = .returned r ∧ Sl .u64 w' r (D.lim N.toNat) ∧ Below w.heap.size w w' := by
  have hA0 := hA; have hB0 := hB
  obtain ⟨a, ca, hv, _⟩ := hA.len
  obtain ⟨bb, cb, hu, _⟩ := hB.len
  subst hv; subst hu
  have HN : Hid (D.val A * D.val B = N) := hN
  clear hN hA hB
  go_enter Try.func85, Try.ntmps85
  go_wp2_with (at_make; refine wpList_mk _ rfl _ _ 97 rfl .u64 62 8 Try.und64 Try.info64 _ (A.length + B.length) rfl rfl (by omega) (by omega) (by omega) ?_; intro w1 hA1 hB1)
  go_loopw [6] (fun iv wr => ∃ (i : Nat) (S : List Int), iv = .int .i64 i ∧ i ≤ A.length ∧ Arr .u64 62 wr w.heap.size S ∧ D.U16s S ∧ S.length = A.length + B.length ∧ Below w.heap.size w wr ∧ D.val S = D.val (A.take i) * D.val B ∧ ∀ j, i + B.length ≤ j → S.getD j 0 = 0)
      (fun iv _ => A.length - (intOf iv).toNat)
  case atStart => exact ⟨0, _, rfl, Nat.zero_le _, hA1, D.U16s.zeros _, by simp, hB1, by simp [D.val_zeros, D.val], fun j _ => by simp [List.getD, List.getElem?_replicate]; split <;> rfl⟩
  case round =>
    clear hA1 hB1
    obtain ⟨i, S, rfl, hi, hS, uS, lS, hBt, hv, hz⟩ := hrel
    by_cases hlt : i < A.length
    · obtain ⟨b, off, ha, hb, hrd⟩ : ∃ b off, a = some ⟨b, off, none⟩ ∧ b < w.heap.size ∧ Rd .u64 w b off A := by
        obtain ⟨a', c', h1, _, h2⟩ := hA0
        cases h1
        rcases h2 with rfl | ⟨b, off, rfl, hb, hr⟩
        · simp at hlt
        · exact ⟨b, off, rfl, hb, hr⟩
      subst ha
      obtain ⟨x, hx⟩ : ∃ x, A.getD i 0 = x := ⟨_, rfl⟩
      have ux : D.U16 x := hx ▸ uA.at i
      have HO : Hid (Below w.heap.size w wr ∧ D.val S = D.val (A.take i) * D.val B ∧ (∀ j, i + B.length ≤ j → S.getD j 0 = 0) ∧ Arr .u64 62 wr w.heap.size S) := ⟨hBt, hv, hz, hS⟩
      have HX : Hid (A.getD i 0 = x ∧ Rd .u64 w b off A ∧ b < w.heap.size) := ⟨hx, hrd, hb⟩
      clear hBt hv hz hx hrd hS
      obtain ⟨ux1, ux2⟩ := ux
      go_wp2
      go_loopw [7, 8] (fun t kv wq => ∃ Z carry, Z.length ≤ B.length ∧ kv = .int .i64 Z.length ∧ t = .int .u64 carry ∧ D.U16 carry ∧ D.U16s Z ∧ Arr .u64 62 wq w.heap.size (S.take i ++ Z ++ S.drop (i + Z.length)) ∧ Below w.heap.size w wq ∧
        D.val Z + 65536 ^ Z.length * carry = D.val ((S.drop i).take Z.length) + x * D.val (B.take Z.length)) (fun _ kv _ => B.length - (intOf kv).toNat)
      case atStart => exact ⟨[], 0, Nat.zero_le _, rfl, rfl, ⟨by decide, by decide⟩, D.U16s.nil, by simpa using HO.out.2.2.2, HO.out.1, by simp [D.val]⟩
      case round =>
        obtain ⟨Z, carry, hkz, rfl, rfl, uc, uZ, hM, hBt, heq⟩ := hrel
        obtain ⟨uc1, uc2⟩ := uc
        obtain ⟨k, hk⟩ : ∃ k, Z.length = k := ⟨_, rfl⟩
        by_cases hlt2 : k < B.length
        · obtain ⟨b2, off2, ha2, hb2, hrd2⟩ : ∃ b2 off2, bb = some ⟨b2, off2, none⟩ ∧ b2 < w.heap.size ∧ Rd .u64 w b2 off2 B := by
            obtain ⟨a', c', h1, _, h2⟩ := hB0
            cases h1
            rcases h2 with rfl | ⟨b, off, rfl, hb, hr⟩
            · simp at hlt2
            · exact ⟨b, off, rfl, hb, hr⟩
          subst ha2
          obtain ⟨y, hy⟩ : ∃ y, B.getD k 0 = y := ⟨_, rfl⟩
          obtain ⟨s, hs⟩ : ∃ s, S.getD (i + k) 0 = s := ⟨_, rfl⟩
          have uy : D.U16 y := hy ▸ uB.at k
          have us : D.U16 s := hs ▸ uS.at (i + k)
          have hcx : wr.cell? ⟨b, off + i, none⟩ = some (.int .u64 x) := by rw [hBt.cell HX.out.2.2, HX.out.2.1 i hlt, HX.out.1]
          have hcy : wr.cell? ⟨b2, off2 + k, none⟩ = some (.int .u64 y) := by rw [hBt.cell hb2, hrd2 k hlt2, hy]
          have hcs : wr.cell? ⟨w.heap.size, i + k, none⟩ = some (.int .u64 s) := by
            have := hM.cell (i + k) (by rw [mid_len _ _ _ (by omega)]; omega)
            rw [← hk, mid_get, hk, hs] at this; rw [← hk, ← this, hk]
          have hfs : wr.frozen? ⟨w.heap.size, i + k, none⟩ = false := hM.frozen _
          obtain ⟨p, hp⟩ : ∃ p, x * y = p := ⟨_, rfl⟩
          have hpb := mul_u16 ⟨ux1, ux2⟩ uy
          rw [hp] at hpb
          obtain ⟨pb1, pb2⟩ := hpb
          obtain ⟨uy1, uy2⟩ := uy
          obtain ⟨us1, us2⟩ := us
          have HH : Hid (B.getD k 0 = y ∧ S.getD (i + k) 0 = s ∧ Arr .u64 62 wr w.heap.size (S.take i ++ Z ++ S.drop (i + Z.length)) ∧ Below w.heap.size w wr ∧ D.U16s Z ∧ Z.length = k ∧ x * y = p ∧
            D.val Z + 65536 ^ Z.length * carry = D.val ((S.drop i).take Z.length) + x * D.val (B.take Z.length)) := ⟨hy, hs, hM, hBt, uZ, hk, hp, heq⟩
          rw [hk] at hkz ⊢
          clear hy hs hM hBt uZ heq hk hrd2
          go_wp2
          go_quiet (fail)
          go_wp2
          go_roundw
          case rel =>
            obtain ⟨hy, hs, hM, hBt, uZ, hk, hp, heq⟩ := HH.out
            refine ⟨Z ++ [(s + p + carry) % 65536], (s + p + carry) / 65536, ?_, ?_, ?_, ?_, ?_, ?_, ?_, ?_⟩
            · simp; omega
            · simp [hk]
            · go_num
            · exact ⟨by omega, by omega⟩
            · exact uZ.append (D.U16s.cons ⟨by omega, by omega⟩ D.U16s.nil)
            · subst hk; rw [← mid_set _ _ _ _ (by omega)]; exact (hM.drewN _).set _ _
            · exact (dr hBt).setCell (Nat.le_refl _) _
            · subst hk
              rw [D.val_snoc, List.length_append, List.length_singleton, D.pow_succ16, D.val_take_succ, D.val_take_succ, hy]
              have hgd : (S.drop i).getD Z.length 0 = s := by rw [List.getD_eq_getElem?_getD, List.getElem?_drop, ← List.getD_eq_getElem?_getD]; exact hs
              rw [hgd]
              have := D.add_step (65536 ^ Z.length) carry x y s (D.val Z) _ (s + p + carry) (by rw [hp]; omega) heq
              rw [this, Int.mul_add]; omega
          case measure => simp [intOf]; omega
        · have hkB : Z.length = B.length := by omega
          have hz2 : (S.take i ++ Z ++ S.drop (i + Z.length)).getD (i + B.length) 0 = 0 := by rw [mid_above (by omega) (by omega)]; exact HO.out.2.2.1 _ (Nat.le_refl _)
          have hcs := hM.cell (i + B.length) (by rw [mid_len _ _ _ (by omega)]; omega)
          rw [hz2] at hcs
          have hfs := hM.frozen (i + B.length)
          have HH : Hid (Arr .u64 62 wr w.heap.size (S.take i ++ Z ++ S.drop (i + Z.length)) ∧ Below w.heap.size w wr ∧ D.U16s Z ∧ Z.length = B.length ∧ D.U16 carry ∧ (S.take i ++ Z ++ S.drop (i + Z.length)).getD (i + B.length) 0 = 0 ∧
            D.val Z + 65536 ^ Z.length * carry = D.val ((S.drop i).take Z.length) + x * D.val (B.take Z.length)) := ⟨hM, hBt, uZ, hkB, ⟨uc1, uc2⟩, hz2, heq⟩
          rw [hkB]
          clear hM hBt uZ heq hz2 hkB
          go_wp2
          go_roundw
          case rel =>
            obtain ⟨hM, hBt, uZ, hkB, uc, hz2, heq⟩ := HH.out
            obtain ⟨_, hv, hz, _⟩ := HO.out
            have hfit : i + Z.length ≤ S.length := by omega
            refine ⟨i + 1, (S.take i ++ Z ++ S.drop (i + Z.length)).set (i + B.length) carry, by go_num, by omega, hM.set _ _, (D.mid_u16 uS uZ).set _ uc, by rw [List.length_set, mid_len _ _ _ hfit]; exact lS, hBt.setCell (Nat.le_refl _) _, ?_, fun j hj => ?_⟩
            · rw [D.val_set (by rw [mid_len _ _ _ hfit]; omega), hz2, Int.sub_zero, D.mid_val hfit, hv, D.val_take_succ, HX.out.1]
              rw [hkB, List.take_length] at heq
              have e1 : D.val Z - D.val ((S.drop i).take Z.length) = x * D.val B - 65536 ^ B.length * carry := by rw [hkB]; omega
              rw [e1, Int.pow_add]
              grind
            · rw [List.getD_eq_getElem?_getD, List.getElem?_set_ne (by omega), ← List.getD_eq_getElem?_getD, mid_above hfit (by omega)]; exact hz j (by omega)
          case measure => simp [intOf]; omega
    · have hin : i = A.length := by omega
      have hs := hS.sl64
      rw [lS] at hs
      have hs' : Sl .u64 wr (.slice (some ⟨w.heap.size, 0, none⟩) (A.length + B.length) (A.length + B.length)) S := hs
      have HV : Hid (D.val S = N) := by rw [hv, hin, List.take_length]; exact HN.out
      clear hv hz hS hs hin hA0 hB0
      go_wp2_with (go_at_call 94; refine (plain_sl _ S hs' uS (by omega) N HV.out).mono ?_; rintro e w' ⟨r, rfl, hr, rfl⟩)
      go_ret
      exact ⟨r, rfl, hr, hBt⟩
end Go.Proofs.Ytkdclocjijmgpaa.Nt
