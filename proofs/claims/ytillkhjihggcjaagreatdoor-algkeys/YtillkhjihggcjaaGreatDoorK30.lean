/-
  The walks of the reference's Small and FromBytes.
-/
import Derived.Test.YtillkhjihggcjaaGreatDoorK29
namespace Go.Proofs.YtillkhjihggcjaaGreatDoor.Nt
open Go.RowKit

def joinB : List Int → List Int
  | [] => []
  | [d] => [d]
  | d :: e :: r => (d + 256 * e) :: joinB r
theorem joinB_val (n : Nat) : ∀ ds : List Int, ds.length ≤ n → D.val (joinB ds) = bv ds := by
  induction n with
  | zero => intro ds h; have : ds = [] := List.eq_nil_of_length_eq_zero (by omega); subst this; rfl
  | succ n ih =>
    intro ds h
    match ds with
    | [] => rfl
    | [d] => simp [joinB, bv, D.val]
    | d :: e :: r => simp only [joinB, bv, D.val]; rw [ih r (by simp at h; omega)]; omega
theorem joinB_u16 (n : Nat) : ∀ ds : List Int, ds.length ≤ n → U8s ds → D.U16s (joinB ds) := by
  induction n with
  | zero => intro ds h _; have : ds = [] := List.eq_nil_of_length_eq_zero (by omega); subst this; exact D.U16s.nil
  | succ n ih =>
    intro ds h hu
    match ds with
    | [] => exact D.U16s.nil
    | [d] => have := hu d (by simp); unfold U8 at this; exact D.U16s.cons ⟨by omega, by omega⟩ D.U16s.nil
    | d :: e :: r =>
      have h1 := hu d (by simp); have h2 := hu e (by simp); unfold U8 at h1 h2
      exact D.U16s.cons ⟨by omega, by omega⟩ (ih r (by simp at h; omega) hu.tail.tail)
theorem joinB_snoc (k : Nat) : ∀ ds : List Int, 2 * k < ds.length → joinB (ds.take (2 * (k + 1))) = joinB (ds.take (2 * k)) ++ [ds.getD (2 * k) 0 + 256 * ds.getD (2 * k + 1) 0] := by
  induction k with
  | zero =>
    intro ds h
    match ds with
    | [d] => simp [joinB]
    | d :: e :: r => simp [joinB]
  | succ k ih =>
    intro ds h
    match ds with
    | [d] => simp at h
    | d :: e :: r =>
      have := ih r (by simp at h; omega)
      have e1 : 2 * (k + 1 + 1) = 2 * (k + 1) + 2 := by omega
      have e2 : 2 * (k + 1) = 2 * k + 2 := by omega
      rw [e1, e2, List.take_succ_cons, List.take_succ_cons, List.take_succ_cons, List.take_succ_cons]
      simp only [joinB, List.cons_append]
      rw [show 2 * k + 2 = 2 * (k + 1) by omega, this]
      simp [show 2 * (k + 1) = 2 * k + 1 + 1 by omega]
theorem joinB_length_le (n : Nat) : ∀ ds : List Int, ds.length ≤ n → (joinB ds).length ≤ ds.length := by
  induction n with
  | zero => intro ds h; have : ds = [] := List.eq_nil_of_length_eq_zero (by omega); subst this; simp [joinB]
  | succ n ih =>
    intro ds h
    match ds with
    | [] => simp [joinB]
    | [d] => simp [joinB]
    | d :: e :: r => have := ih r (by simp at h; omega); simp only [joinB, List.length_cons]; omega

set_option maxHeartbeats 2000000 in
theorem RFromBytes_any (bs : List Int) (v : Value) (w : World) (hb : Sl .u8 w v bs) (ub : U8s bs) :
    Calls Tryz.prog 61 #[v] w fun e w' => RTwo w' e (fromS bs) ∧ Below w.heap.size w w' := by
  have hb0 := hb
  obtain ⟨a, c, hv, hc⟩ := hb.len
  subst hv
  by_cases hlong : 2048 < bs.length
  · have HL : Hid (fromS bs = ([], 3)) := by unfold fromS; rw [if_pos hlong]; rfl
    go_enter Tryz.func61, Tryz.ntmps61
    go_wp2
    go_ret2
    exact ⟨RTwo.nil' HL.out, Below.refl _ _⟩
  obtain ⟨rb, hrb⟩ : ∃ rb, bs.reverse = rb := ⟨_, rfl⟩
  have lrb : rb.length = bs.length := by rw [← hrb]; simp
  have urb : U8s rb := hrb ▸ ub.rev
  have hget : ∀ j, j < bs.length → rb.getD j 0 = bs.getD (bs.length - 1 - j) 0 := fun j hj => by
    rw [← hrb, List.getD_eq_getElem?_getD, List.getElem?_reverse hj, ← List.getD_eq_getElem?_getD]
  obtain ⟨N, hN⟩ : ∃ N, bv rb = N := ⟨_, rfl⟩
  have HL : Hid (fromS bs = (lim N.toNat, 0)) := by unfold fromS; rw [if_neg hlong, hrb, hN]; rfl
  have HN : Hid (bv rb = N) := hN
  have HG : Hid (∀ j, j < bs.length → rb.getD j 0 = bs.getD (bs.length - 1 - j) 0) := hget
  clear hrb hN hget
  go_enter Tryz.func61, Tryz.ntmps61
  go_wp2
  go_loopw [4, 5] (fun o i wr => ∃ j : Nat, j % 2 = 0 ∧ j ≤ bs.length + 1 ∧ i = .int .i64 ((bs.length : Int) - 1 - j) ∧ Row .u64 136 w.heap.size wr o (joinB (rb.take j)) ∧ Below w.heap.size w wr) (fun _ i _ => (intOf i + 2).toNat)
  case atStart => exact ⟨0, rfl, by omega, by go_num, Row.nil _ _ _ _, Below.refl _ _⟩
  case round =>
    obtain ⟨j, hj2, hj, rfl, hrow, hBt⟩ := hrel
    by_cases hlt : j < bs.length
    · obtain ⟨i, hi⟩ : ∃ i, bs.length - 1 - j = i := ⟨_, rfl⟩
      have hiI : (bs.length : Int) - 1 - j = (i : Int) := by omega
      obtain ⟨y, hy⟩ : ∃ y, rb.getD j 0 = y := ⟨_, rfl⟩
      obtain ⟨z, hz⟩ : ∃ z, rb.getD (j + 1) 0 = z := ⟨_, rfl⟩
      have uy : U8 y := hy ▸ urb.at j
      have uz : U8 z := hz ▸ urb.at (j + 1)
      obtain ⟨uy1, uy2⟩ := uy
      obtain ⟨uz1, uz2⟩ := uz
      obtain ⟨b, off, ha, hbb, hrd⟩ : ∃ b off, a = some ⟨b, off, none⟩ ∧ b < w.heap.size ∧ Rd .u8 w b off bs := by
        obtain ⟨a', c', h1, _, h2⟩ := hb0
        cases h1
        rcases h2 with rfl | ⟨b, off, rfl, hb, hr⟩
        · simp at hlt
        · exact ⟨b, off, rfl, hb, hr⟩
      subst ha
      have hcy : wr.cell? ⟨b, off + i, none⟩ = some (.int .u8 y) := by rw [hBt.cell hbb, hrd i (by omega), ← hi, ← HG.out j hlt, hy]
      have hsz : w.heap.size ≤ wr.heap.size := hBt.size
      have hlen : (joinB (rb.take j)).length ≤ j := by have := joinB_length_le _ (rb.take j) (Nat.le_refl _); simp at this; omega
      have HLn : Hid ((joinB (rb.take j)).length ≤ j) := hlen
      have hsn : joinB (rb.take (j + 2)) = joinB (rb.take j) ++ [y + 256 * z] := by
        have := joinB_snoc (j / 2) rb (by omega)
        rw [show 2 * (j / 2 + 1) = j + 2 by omega, show 2 * (j / 2) = j by omega, hy, hz] at this; exact this
      have HH : Hid (joinB (rb.take (j + 2)) = joinB (rb.take j) ++ [y + 256 * z] ∧ Below w.heap.size w wr ∧ (bs.length : Int) - 1 - j = (i : Int)) := ⟨hsn, hBt, hiI⟩
      by_cases hi0 : i = 0
      · have hz0 : z = 0 := by rw [← hz]; simp [List.getD, List.getElem?_eq_none (show rb.length ≤ j + 1 by omega)]
        subst hz0
        subst hi0
        have hi00 : (bs.length : Int) - 1 - j = 0 := by omega
        rw [hi00]
        simp only [Nat.add_zero] at hcy
        clear hi00
        clear hy hz hrd hsn hBt hlen hb0 hb hiI hi
        go_wp2_with (at_builtin; refine wpList_ap rfl (.tmp 33) (.tmp 35) 148 148 rfl .u64 136 8 Tryz.und64 Tryz.info64 (by decide) w.heap.size _ (joinB (rb.take j)) (by rfl) (hrow.alloc _) _ [y + 256 * 0] (by rfl) (src_sl Tryz.und64 (Arr.sl64 (S := [y + 256 * 0]) (arr_new rfl (by simp)))) (by have := HLn.out; simp only [List.length_singleton]; omega) (by simp; omega) ?_; intro v1 w1 hr1 hg1; have hB1 := hg1.below (hrow.alloc _) (by simp; omega))
        go_roundw
        case rel => exact ⟨j + 2, by omega, by omega, by have := HH.out.2.2; go_num, by rw [HH.out.1]; exact hr1, (al HH.out.2.1).trans hB1⟩
        case measure => simp [intOf]
      · obtain ⟨i', rfl⟩ : ∃ i', i = i' + 1 := ⟨i - 1, by omega⟩
        have hcz : wr.cell? ⟨b, off + i', none⟩ = some (.int .u8 z) := by rw [hBt.cell hbb, hrd i' (by omega), ← hz, HG.out (j + 1) (by omega)]; congr 3; omega
        have hib : i' + 1 < bs.length := by omega
        rw [hiI]
        clear hy hz hrd hsn hBt hlen hb0 hb hiI hi hi0
        go_wp2_with (at_builtin; refine wpList_ap rfl (.tmp 33) (.tmp 35) 148 148 rfl .u64 136 8 Tryz.und64 Tryz.info64 (by decide) w.heap.size _ (joinB (rb.take j)) (by rfl) (hrow.alloc _) _ [y + 256 * z] (by rfl) (src_sl Tryz.und64 (Arr.sl64 (S := [y + 256 * z]) (arr_new rfl (by simp; omega)))) (by have := HLn.out; simp only [List.length_singleton]; omega) (by simp; omega) ?_; intro v1 w1 hr1 hg1; have hB1 := hg1.below (hrow.alloc _) (by simp; omega))
        go_roundw
        case rel => exact ⟨j + 2, by omega, by omega, by have := HH.out.2.2; go_num, by rw [HH.out.1]; exact hr1, (al HH.out.2.1).trans hB1⟩
        case measure => simp [intOf]; omega
    · have hneg : (bs.length : Int) - 1 - j < 0 := by omega
      have hfull : rb.take j = rb := List.take_of_length_le (by omega)
      rw [hfull] at hrow
      have hs := hrow.sl
      have hlen : (joinB rb).length ≤ 2048 := by have := joinB_length_le _ rb (Nat.le_refl _); omega
      have hu := joinB_u16 _ rb (Nat.le_refl _) urb
      have HV : Hid (D.val (joinB rb) = N) := (joinB_val _ rb (Nat.le_refl _)).trans HN.out
      clear hfull hrow hb0 hb
      go_wp2_with (go_at_call 82; refine (Limbs_any _ (joinB rb) hs hu (by omega) N HV.out).mono ?_; rintro e w' ⟨o, rfl, ho, hB⟩; replace hBt := grow0 hBt hB)
      go_ret2
      exact ⟨RTwo.mk' ho HL.out, hBt⟩
end Go.Proofs.YtillkhjihggcjaaGreatDoor.Nt
