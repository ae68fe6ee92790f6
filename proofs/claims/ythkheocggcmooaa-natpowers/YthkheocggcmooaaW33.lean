/-
  The walks of the reference's Digits and Limbs.
-/
import Derived.Test.YthkheocggcmooaaW32
import Derived.Test.YthkheocggcmooaaW2
namespace Go.Proofs.Ythkheocggcmooaa
open Go.RowKit

theorem Try.info64 : (Try.prog.info? 42).map (fun i => (i.zero, i.size, i.bytes)) = some (some (.int .u64 0), 1, 8) := by kernel_rfl
theorem Try.und64 : Try.prog.underlying 58 = some (.slice 42) := by kernel_rfl
theorem and16 (x : Int) (h0 : 0 ≤ x) (h1 : x < 4294967296) : bits BinOp.and .u32 x 65535 = x % 65536 := by go_bits2
theorem Arr.sl64 {w : World} {b : Nat} {S : List Int} (h : Arr .u64 42 w b S) : Sl .u64 w (.slice (some ⟨b, 0, none⟩) S.length S.length) S :=
  ⟨_, _, rfl, Nat.le_refl _, .inr ⟨b, 0, rfl, h.lt, by have := h.rd 0 S.length (by omega); rw [List.drop_zero, List.take_length] at this; exact this⟩⟩
/-- New memory in digits: a result. -/
abbrev Dg (w w' : World) (v : Value) (N : Int) : Prop := Sl .u64 w' v (D.lim N.toNat) ∧ Below w.heap.size w w'

set_option maxHeartbeats 2000000 in
theorem Digits_any {w : World} (v : Value) (X : List Int) (hX : Sl .u32 w v X) (uX : U32s X) (hl : X.length ≤ 8796093022208) (N : Int) (hN : val X = N) :
    Calls Try.prog 49 #[v] w fun e w' => ∃ r, e = .returned r ∧ Sl .u64 w' r (D.lim N.toNat) ∧ Below w.heap.size w w' := by
  have hX0 := hX
  obtain ⟨a, c, hv, hc⟩ := hX.len
  subst hv
  have HN : Hid (val X = N) := hN
  clear hN
  go_enter Try.func49, Try.ntmps49
  go_wp2
  go_loopw [3, 4] (fun o i wr => ∃ k : Nat, k ≤ X.length ∧ i = .int .i64 k ∧ Row .u64 42 w.heap.size wr o (split (X.take k)) ∧ Below w.heap.size w wr) (fun _ i _ => X.length - (intOf i).toNat)
  case atStart => exact ⟨0, by omega, rfl, Row.nil _ _ _ _, Below.refl _ _⟩
  case round =>
    obtain ⟨k, hk, rfl, hrow, hBt⟩ := hrel
    by_cases hlt : k < X.length
    · obtain ⟨x, hx⟩ : ∃ x, X.getD k 0 = x := ⟨_, rfl⟩
      have ux : U32 x := hx ▸ uX.at k
      obtain ⟨ux1, ux2⟩ := ux
      obtain ⟨b, off, ha, hb, hr⟩ : ∃ b off, a = some ⟨b, off, none⟩ ∧ b < w.heap.size ∧ Rd .u32 w b off X := by
        obtain ⟨a', c', h1, _, h2⟩ := hX0
        cases h1
        rcases h2 with rfl | ⟨b, off, rfl, hb, hr⟩
        · simp at hlt
        · exact ⟨b, off, rfl, hb, hr⟩
      subst ha
      have hcx : wr.cell? ⟨b, off + k, none⟩ = some (.int .u32 x) := by rw [hBt.cell hb, hr k hlt, hx]
      have e1 := and16 x ux1 ux2
      have hw1 : IntKind.u64.wrap (x % 65536) = x % 65536 := by rw [IntKind.wrap_u64]; omega
      have hw2 : IntKind.u64.wrap (x / 65536) = x / 65536 := by rw [IntKind.wrap_u64]; omega
      have HH : Hid (X.getD k 0 = x ∧ Below w.heap.size w wr) := ⟨hx, hBt⟩
      have hsz : w.heap.size ≤ wr.heap.size := hBt.size
      have hlen : (split (X.take k)).length = 2 * k := by rw [split_length]; simp; omega
      have HL : Hid ((split (X.take k)).length = 2 * k) := hlen
      have hk0 : (0 : Int) ≤ (k : Int) := by omega
      have hkl : (k : Int) < (X.length : Int) := by omega
      clear hx hr hX hX0 hBt hlen
      go_wp2
      go_region_held3 (fun w' => w'.cell? ⟨b, off + k, none⟩ = some (.int .u32 x)) (first | go_keep | (rw [hB1.cell hb]; go_keep))
        ((refine step_ap (by rfl) (.tmp 11) (.tmp 24) 58 58 (by rfl) .u64 42 8 Try.und64 Try.info64 (by decide) w.heap.size _ (split (X.take k)) (by rfl) (Row.alloc (by assumption) _) _ [x % 65536, x / 65536] (by rfl) (src_sl Try.und64 (Arr.sl64 (S := [x % 65536, x / 65536]) (arr_new rfl rfl))) (by rw [HL.out]; show (2 * k + 2) * 8 ≤ _; omega) (by simp; omega) ?_; intro v1 w1 hr1 hg1; have hB1 := hg1.below (Row.alloc (by assumption) _) (by simp; omega)))
      all_goals go_wp2
      go_roundw
      case rel =>
        obtain ⟨hx, hBt⟩ := HH.out
        refine ⟨k + 1, by omega, by go_num, ?_, (al hBt).drew.trans hB1⟩
        rw [split_snoc X hlt, hx]; exact hr1
      case measure => simp [intOf]; omega
    · have hfull : X.take k = X := List.take_of_length_le (by omega)
      rw [hfull] at hrow
      have hs := hrow.sl
      clear hfull hX hX0 hrow
      go_wp2_with (go_at_call 66; refine (plain_sl _ (split X) hs (split_u16 uX) (by rw [split_length]; omega) N (by rw [split_val]; exact HN.out)).mono ?_; rintro e w' ⟨r, rfl, hr, rfl⟩)
      go_ret
      exact ⟨r, rfl, hr, hBt⟩

set_option maxHeartbeats 2000000 in
theorem Limbs_any {w : World} (v : Value) (Ds : List Int) (hD : Sl .u64 w v Ds) (uD : D.U16s Ds) (hl : Ds.length ≤ 1073741824) (N : Int) (hN : D.val Ds = N) :
    Calls Try.prog 47 #[v] w fun e w' => ∃ r, e = .returned r ∧ Sl .u32 w' r (lim N.toNat) ∧ Below w.heap.size w w' := by
  have hN0 : 0 ≤ N := hN ▸ D.val_nonneg uD
  have hL : (D.lim N.toNat).length ≤ 1073741824 := by
    have h1 := D.take_sig_lim uD; have h2 := D.sig_le Ds
    rw [hN] at h1; rw [← h1]; simp; omega
  obtain ⟨Es, hE⟩ : ∃ Es, D.lim N.toNat = Es := ⟨_, rfl⟩
  have HE : Hid (D.lim N.toNat = Es) := hE
  have uE : D.U16s Es := hE ▸ D.lim_u16 _
  have HN : Hid (D.val Ds = N) := hN
  rw [hE] at hL
  clear hE hN
  go_enter Try.func47, Try.ntmps47
  go_wp2_with (go_at_call 66; refine (plain_sl _ Ds hD uD (by omega) N HN.out).mono ?_; rintro e w' ⟨r, rfl, hr, rfl⟩; rw [HE.out] at hr; obtain ⟨a, c, hv, hc⟩ := hr.len; subst hv)
  go_loopw [3, 4] (fun o i wr => ∃ j : Nat, j % 2 = 0 ∧ j ≤ Es.length + 1 ∧ i = .int .i64 j ∧ Row .u32 53 w.heap.size wr o (join (Es.take j)) ∧ Below w.heap.size w wr) (fun _ i _ => Es.length + 1 - (intOf i).toNat)
  case atStart => exact ⟨0, rfl, by omega, rfl, Row.nil _ _ _ _, Below.refl _ _⟩
  case round =>
    obtain ⟨j, hj2, hj, rfl, hrow, hBt⟩ := hrel
    by_cases hlt : j < Es.length
    · obtain ⟨y, hy⟩ : ∃ y, Es.getD j 0 = y := ⟨_, rfl⟩
      obtain ⟨z, hz⟩ : ∃ z, Es.getD (j + 1) 0 = z := ⟨_, rfl⟩
      have uy : D.U16 y := hy ▸ uE.at j
      have uz : D.U16 z := hz ▸ uE.at (j + 1)
      obtain ⟨uy1, uy2⟩ := uy
      obtain ⟨uz1, uz2⟩ := uz
      obtain ⟨b, off, ha, hb, hrd⟩ : ∃ b off, a = some ⟨b, off, none⟩ ∧ b < w.heap.size ∧ Rd .u64 w b off Es := by
        obtain ⟨a', c', h1, _, h2⟩ := hr
        cases h1
        rcases h2 with rfl | ⟨b, off, rfl, hb, hr⟩
        · simp at hlt
        · exact ⟨b, off, rfl, hb, hr⟩
      subst ha
      have hcy : wr.cell? ⟨b, off + j, none⟩ = some (.int .u64 y) := by rw [hBt.cell hb, hrd j hlt, hy]
      have hsz : w.heap.size ≤ wr.heap.size := hBt.size
      have hlen : (join (Es.take j)).length ≤ j := by have := join_length_le _ (Es.take j) (Nat.le_refl _); simp at this; omega
      have HL : Hid ((join (Es.take j)).length ≤ j) := hlen
      have hsn : join (Es.take (j + 2)) = join (Es.take j) ++ [y + 65536 * z] := by
        have := join_snoc (j / 2) Es (by omega)
        rw [show 2 * (j / 2 + 1) = j + 2 by omega, show 2 * (j / 2) = j by omega, hy, hz] at this; exact this
      have HH : Hid (join (Es.take (j + 2)) = join (Es.take j) ++ [y + 65536 * z] ∧ Below w.heap.size w wr) := ⟨hsn, hBt⟩
      by_cases hlt2 : j + 1 < Es.length
      · have hcz : wr.cell? ⟨b, off + (j + 1), none⟩ = some (.int .u64 z) := by rw [hBt.cell hb, hrd (j + 1) hlt2, hz]
        clear hy hz hrd hsn hr hBt hlen
        go_wp2_with (at_builtin; refine wpList_ap rfl (.tmp 33) (.tmp 35) 22 22 rfl .u32 53 4 Try.und32 Try.info32 (by decide) w.heap.size _ (join (Es.take j)) (by rfl) (hrow.alloc _) _ [y + 65536 * z] (by rfl) (src_sl Try.und32 (Arr.sl (S := [y + 65536 * z]) (arr_new rfl (by simp; omega)))) (by have := HL.out; simp only [List.length_singleton]; omega) (by simp; omega) ?_; intro v1 w1 hr1 hg1; have hB1 := hg1.below (hrow.alloc _) (by simp; omega))
        go_roundw
        case rel => exact ⟨j + 2, by omega, by omega, by go_num, by rw [HH.out.1]; exact hr1, (al HH.out.2).trans hB1⟩
        case measure => simp [intOf]; omega
      · have hz0 : z = 0 := by rw [← hz]; simp [List.getD, List.getElem?_eq_none (show Es.length ≤ j + 1 by omega)]
        subst hz0
        clear hy hz hrd hsn hr hBt hlen
        go_wp2_with (at_builtin; refine wpList_ap rfl (.tmp 33) (.tmp 35) 22 22 rfl .u32 53 4 Try.und32 Try.info32 (by decide) w.heap.size _ (join (Es.take j)) (by rfl) (hrow.alloc _) _ [y + 65536 * 0] (by rfl) (src_sl Try.und32 (Arr.sl (S := [y + 65536 * 0]) (arr_new rfl (by simp)))) (by have := HL.out; simp only [List.length_singleton]; omega) (by simp; omega) ?_; intro v1 w1 hr1 hg1; have hB1 := hg1.below (hrow.alloc _) (by simp; omega))
        go_roundw
        case rel => exact ⟨j + 2, by omega, by omega, by go_num, by rw [HH.out.1]; exact hr1, (al HH.out.2).trans hB1⟩
        case measure => simp [intOf]; omega
    · have hfull : Es.take j = Es := List.take_of_length_le (by omega)
      rw [hfull] at hrow
      have hs := hrow.sl
      rw [← HE.out, join_lim] at hs
      obtain ⟨a', c', hv, _⟩ := hs.len
      subst hv
      clear hfull hrow hr
      go_wp2
      go_ret
      exact ⟨_, rfl, hs, hBt⟩
end Go.Proofs.Ythkheocggcmooaa
