/-
  The walk of the reference's divmod.
-/
import Derived.Test.YtjmiaakfdclfjaaGreatDoorK8
namespace Go.Proofs.YtjmiaakfdclfjaaGreatDoor.Nt
open Go.RowKit

theorem len1 (x : Int) : [x].length ≤ maxLen := by simp [maxLen]

set_option maxHeartbeats 8000000 in
set_option maxRecDepth 20000 in
theorem divmod_any {w : World} (v u : Value) (A : List Int) (M : Int) (hA : Sl .u64 w v A) (hB : Sl .u64 w u (D.lim M.toNat)) (uA : D.U16s A) (hM : 0 < M) (lA : A.length ≤ 4096) (lB : (D.lim M.toNat).length ≤ 4096) (Q R : Int) (hQ : D.val A / M = Q) (hR : D.val A % M = R) :
    Calls Tryz.prog 72 #[v, u] w fun e w' => ∃ q r, e = .returned (.tuple #[q, r]) ∧ Sl .u64 w' q (D.lim Q.toNat) ∧ Sl .u64 w' r (D.lim R.toNat) ∧ Below w.heap.size w w' := by
  have hA0 := hA; have hB0 := hB
  obtain ⟨a, ca, hv, _⟩ := hA.len
  subst hv
  obtain ⟨Bs, hBs⟩ : ∃ Bs, D.lim M.toNat = Bs := ⟨_, rfl⟩
  have uB : D.U16s Bs := hBs ▸ D.lim_u16 _
  have vB : D.val Bs = M := by rw [← hBs]; exact D.val_limI (by omega)
  have sB : D.sig Bs = Bs.length := by rw [← hBs]; exact D.sig_lim _
  have nB : 0 < Bs.length := by
    apply Decidable.byContradiction
    intro h
    have : Bs = [] := List.eq_nil_of_length_eq_zero (by omega)
    rw [this] at vB; simp [D.val] at vB; omega
  obtain ⟨m, hm⟩ : ∃ m, Bs.length = m + 1 := ⟨Bs.length - 1, by omega⟩
  have lB' : m + 1 ≤ 4096 := by rw [hBs] at lB; omega
  obtain ⟨bt, hbt⟩ : ∃ x, Bs.getD m 0 = x := ⟨_, rfl⟩
  have ubt : D.U16 bt := hbt ▸ uB.at m
  have hbt0 : 0 < bt := by
    have h1 := D.sig_last (xs := Bs) (by omega)
    rw [sB, hm, show m + 1 - 1 = m by omega, hbt] at h1
    unfold D.U16 at ubt; omega
  obtain ⟨bs, hbs⟩ : ∃ x, (if 0 ≤ ((m : Int) - 1) then Bs.getD ((m : Int) - 1).toNat 0 else 0) = x := ⟨_, rfl⟩
  have ubs : D.U16 bs := by
    rw [← hbs]; split
    · exact uB.at _
    · exact ⟨by decide, by decide⟩
  obtain ⟨ubt1, ubt2⟩ := ubt
  obtain ⟨ubs1, ubs2⟩ := ubs
  have hMb : M < 65536 ^ 4096 := by
    have h1 := D.val_lt uB; rw [vB, hm] at h1
    exact Int.lt_of_lt_of_le h1 (D.pow_mono lB')
  have HMb : Hid (M < 65536 ^ 4096) := hMb
  obtain ⟨au, cu, hu, hcu⟩ := hB.len
  rw [hBs, hm] at hu
  rw [hBs, hm] at hcu
  have hBd := hB0
  rw [hBs] at hBd
  obtain ⟨bb, ob, hau, hbb, hrb⟩ : ∃ b off, au = some ⟨b, off, none⟩ ∧ b < w.heap.size ∧ Rd .u64 w b off Bs := by
    obtain ⟨a', c', h1, _, h2⟩ := id hBd
    rw [hu] at h1
    simp only [Value.slice.injEq] at h1
    obtain ⟨rfl, _, _⟩ := h1
    rcases h2 with h2 | ⟨b, off, rfl, hb, hr⟩
    · rw [h2] at hm; simp at hm
    · exact ⟨b, off, rfl, hb, hr⟩
  subst hau
  subst hu
  have HQR : Hid (D.val A / M = Q ∧ D.val A % M = R) := ⟨hQ, hR⟩
  have HB : Hid (D.lim M.toNat = Bs ∧ D.U16s Bs ∧ D.val Bs = M ∧ Bs.length = m + 1 ∧ Bs.getD m 0 = bt ∧ (if 0 ≤ ((m : Int) - 1) then Bs.getD ((m : Int) - 1).toNat 0 else 0) = bs) := ⟨hBs, uB, vB, hm, hbt, hbs⟩
  have hB1 := hB0
  have hcb : w.cell? ⟨bb, ob + m, none⟩ = some (.int .u64 bt) := by rw [hrb m (by omega), hbt]
  have hdt : ∀ w', Below w.heap.size w w' → Calls Tryz.prog 75 #[.slice (some ⟨bb, ob, none⟩) (m + 1) cu, .int .i64 ((m : Int) - 1)] w' fun e w'' => e = .returned (.int .u64 bs) ∧ w'' = w' := fun w' h' =>
    (digit_any _ Bs (below_sl h' hBd) (by omega) ((m : Int) - 1) (by omega) bs hbs).mono fun e w'' h => ⟨h.1, h.2.symm⟩
  clear hA hB hB0 hBd hBs uB vB sB nB hbt hbs lB hQ hR hMb hrb hm
  obtain ⟨tp, htp⟩ : ∃ t, bt * 65536 + bs = t := ⟨_, rfl⟩
  have HTP : Hid (bt * 65536 + bs = tp) := htp
  have htp0 : 0 < tp := by omega
  have htp1 : tp < 4294967296 := by omega
  have hmi : (m : Int) + 1 - 2 = (m : Int) - 1 := by omega
  go_enter Tryz.func72, Tryz.ntmps72
  go_upto_region 3 with (at_make; refine wpList_mk _ rfl _ _ 73 rfl .u64 43 8 Tryz.und64 Tryz.info64 _ A.length rfl rfl (by omega) (by omega) (by omega) ?_; intro w1 hA1 hW1)
  have hcb1 : w1.cell? ⟨bb, ob + m, none⟩ = some (.int .u64 bt) := by rw [hW1.cell hbb]; exact hcb
  have hdq : ∀ q, Calls Tryz.prog 75 #[.slice (some ⟨bb, ob, none⟩) (m + 1) cu, .int .i64 ((m : Int) - 1)] (w1.drewN q) fun e w'' => e = .returned (.int .u64 bs) ∧ w'' = w1.drewN q := fun q => hdt _ (dr hW1)
  clear hdt hcb
  go_quiet ((go_at_call 75; exact Calls.quiet_of_same (hdq _)))
  clear hdq
  go_wp2
  go_loopw [9, 10] (fun rv iv wr => ∃ (k : Nat) (S : List Int) (hi : Int), iv = .int .i64 ((k : Int) - 1) ∧ k ≤ A.length ∧ D.val (A.drop k) = hi ∧ SlN .u64 (w.heap.size + 1) wr rv (D.lim (hi % M).toNat) ∧ Arr .u64 43 wr w.heap.size S ∧ D.U16s S ∧ S.length = A.length ∧
      (∀ j, j < k → S.getD j 0 = 0) ∧ D.val (S.drop k) = hi / M ∧ Below w.heap.size w wr) (fun _ iv _ => (intOf iv + 1).toNat)
  case atStart =>
    refine ⟨A.length, List.replicate A.length 0, 0, by go_num, Nat.le_refl _, by simp [D.val], ?_, hA1, D.U16s.zeros _, by simp, fun j _ => by simp [List.getD, List.getElem?_replicate]; split <;> rfl, by simp [D.val], dr hW1⟩
    rw [Int.zero_emod]; exact SlN.nil _ _ _
  case round =>
    clear hA1 hW1 hcb1 htp hmi
    obtain ⟨k0, S, hi, rfl, hk, hhi, hr, hS, uS, lS, hz, hdv, hBt⟩ := hrel
    cases k0 with
    | zero =>
      have hs := hS.sl64
      rw [lS] at hs
      have hs' : Sl .u64 wr (.slice (some ⟨w.heap.size, 0, none⟩) A.length A.length) S := hs
      have HV : Hid (D.val S = Q) := by
        rw [List.drop_zero] at hdv hhi
        rw [hdv, ← hhi]; exact HQR.out.1
      have hrR := hr.sl
      rw [← hhi, List.drop_zero, HQR.out.2] at hrR
      have lS' : S.length ≤ 4096 := by omega
      clear hr hS hz hdv hs lS hhi
      have em : (((0 : Nat) : Int) - 1) = -1 := by rfl
      rw [em]
      clear em
      go_wp2_with (go_at_call 67; refine (plain_sl _ S hs' uS (by omega) Q HV.out).mono ?_; rintro e w' ⟨q, rfl, hq, rfl⟩)
      go_ret2
      exact ⟨q, _, rfl, hq, hrR, hBt⟩
    | succ k =>
      have em : (((k + 1 : Nat) : Int) - 1) = (k : Int) := by omega
      rw [em]
      clear em
      have hk' : k < A.length := by omega
      obtain ⟨x, hx⟩ : ∃ x, A.getD k 0 = x := ⟨_, rfl⟩
      have ux : D.U16 x := hx ▸ uA.at k
      obtain ⟨ux1, ux2⟩ := ux
      obtain ⟨ba, oa, ha, hba, hra⟩ : ∃ b off, a = some ⟨b, off, none⟩ ∧ b < w.heap.size ∧ Rd .u64 w b off A := by
        obtain ⟨a', c', h1, _, h2⟩ := hA0
        cases h1
        rcases h2 with rfl | ⟨b, off, rfl, hb, hr⟩
        · simp at hk'
        · exact ⟨b, off, rfl, hb, hr⟩
      subst ha
      have hcx : wr.cell? ⟨ba, oa + k, none⟩ = some (.int .u64 x) := by rw [hBt.cell hba, hra k hk', hx]
      obtain ⟨R1, hR1⟩ : ∃ R1, hi % M = R1 := ⟨_, rfl⟩
      have hR10 : 0 ≤ R1 := by rw [← hR1]; exact Int.emod_nonneg _ (by omega)
      have hR1M : R1 < M := by rw [← hR1]; exact Int.emod_lt_of_pos _ hM
      rw [hR1] at hr
      obtain ⟨R2, hR2⟩ : ∃ R2, x + 65536 * R1 = R2 := ⟨_, rfl⟩
      have hR20 : 0 ≤ R2 := by omega
      have hR2M : R2 < 65536 * M := by omega
      have l1 : (D.lim R1.toNat).length ≤ 4096 := D.lim_fits hR10 (by have := HMb.out; omega)
      have l2 : (D.lim R2.toNat).length ≤ m + 2 := D.lim_fits hR20 (by
        have h1 := D.val_lt HB.out.2.1
        rw [HB.out.2.2.1, HB.out.2.2.2.1] at h1
        rw [D.pow_succ16]; omega)
      have lM : (D.lim M.toNat).length ≤ 4096 := by rw [HB.out.1, HB.out.2.2.2.1]; omega
      have HX : Hid (A.getD k 0 = x) := hx
      have HHI : Hid (D.val (A.drop (k + 1)) = hi) := hhi
      have HR1 : Hid (hi % M = R1) := hR1
      have HR2 : Hid (x + 65536 * R1 = R2) := hR2
      have HS : Hid (Arr .u64 43 wr w.heap.size S ∧ D.U16s S ∧ S.length = A.length ∧ (∀ j, j < k + 1 → S.getD j 0 = 0) ∧ D.val (S.drop (k + 1)) = hi / M ∧ Below w.heap.size w wr) := ⟨hS, uS, lS, hz, hdv, hBt⟩
      have hbw := below_sl hBt hB1
      have HP : Hid (D.U16s ([x] ++ D.lim R1.toNat) ∧ ([x] ++ D.lim R1.toNat).length ≤ 1152921504606846976 ∧ D.val ([x] ++ D.lim R1.toNat) = R2) := by
        refine ⟨(D.U16s.cons ⟨ux1, ux2⟩ D.U16s.nil).append (D.lim_u16 _), by simp; omega, ?_⟩
        rw [List.singleton_append]; simp only [D.val]; rw [D.val_limI hR10]; exact hR2
      have hsz : w.heap.size < wr.heap.size := hS.lt
      clear hx hhi hR1 hR2 hS uS lS hz hdv hBt hra
      by_cases hlt : R2 < M
      · have HC : Hid (cmpI (D.val (D.lim R2.toNat)) (D.val (D.lim M.toNat)) = -1) := by rw [D.val_limI hR20, D.val_limI (by omega)]; unfold cmpI; rw [if_pos hlt]; rfl
        go_wp2_with (first
          | (at_builtin; refine wpList_ap rfl (.tmp 41) (.tmp 42) 73 73 rfl .u64 43 8 Tryz.und64 Tryz.info64 (by decide) wr.heap.size _ [x] (by rfl) (Row.arr (S := [x]) (arr_new rfl rfl) (Nat.le_refl _) (len1 x)) _ (D.lim R1.toNat) (by rfl) (src_sl Tryz.und64 (al1 hr.sl)) (by simp only [List.length_singleton]; omega) (by simp) ?_; intro v2 w2 hrow2 hg2; have hB2 : Below wr.heap.size wr w2 := (al (Below.refl _ _)).trans (hg2.below (Row.arr (B := wr.heap.size) (S := [x]) (arr_new rfl rfl) (Nat.le_refl _) (len1 x)) (by simp)); have hb2 := below_sl hB2 hbw)
          | (go_at_call 67; refine (plain_new _ _ hrow2.sln HP.out.1 HP.out.2.1 R2 HP.out.2.2).mono ?_; rintro e w' ⟨r2, rfl, hr2, rfl⟩)
          | (go_at_call 92; refine (order_any _ _ _ _ hr2.sl hb2 (D.lim_u16 _) (D.lim_u16 _) (by omega) (by omega) (-1) HC.out).mono ?_; rintro e w' ⟨rfl, rfl⟩))
        go_roundw
        case rel =>
          obtain ⟨hS, uS, lS, hz, hdv, hBt⟩ := HS.out
          have hd := D.div_step (hi := hi) (a := x) (R := R1) (g := 0) hM HR1.out (by rw [HR2.out]; omega) (by rw [HR2.out]; omega)
          rw [HR2.out] at hd
          refine ⟨k, S, x + 65536 * hi, by go_num, by omega, ?_, ?_, below_arr hB2 hS.lt hS, uS, lS, fun j hj => hz j (by omega), ?_, hBt.trans (hB2.mono hBt.size)⟩
          · rw [D.drop_step A k hk', HX.out, HHI.out]
          · rw [hd.2, Int.zero_mul, Int.sub_zero]; exact hr2.mono (by omega)
          · rw [D.drop_step S k (by omega), hz k (by omega), hdv, hd.1]
        case measure => simp [intOf]
      obtain ⟨c, hc⟩ : ∃ c, cmpI (D.val (D.lim R2.toNat)) (D.val (D.lim M.toNat)) = c := ⟨_, rfl⟩
      have hc0 : ¬ c < 0 := by rw [← hc, D.val_limI hR20, D.val_limI (by omega)]; unfold cmpI; rw [if_neg hlt]; split <;> decide
      have HC : Hid (cmpI (D.val (D.lim R2.toNat)) (D.val (D.lim M.toNat)) = c) := hc
      clear hc
      by_cases hm1 : 1 ≤ m
      · obtain ⟨y0, hy0⟩ : ∃ y, (if 0 ≤ ((m : Int) + 1) then (D.lim R2.toNat).getD ((m : Int) + 1).toNat 0 else 0) = y := ⟨_, rfl⟩
        obtain ⟨y1, hy1⟩ : ∃ y, (if 0 ≤ (m : Int) then (D.lim R2.toNat).getD (m : Int).toNat 0 else 0) = y := ⟨_, rfl⟩
        obtain ⟨y2, hy2⟩ : ∃ y, (if 0 ≤ ((m : Int) - 1) then (D.lim R2.toNat).getD ((m : Int) - 1).toNat 0 else 0) = y := ⟨_, rfl⟩
        have HY : Hid ((if 0 ≤ ((m : Int) + 1) then (D.lim R2.toNat).getD ((m : Int) + 1).toNat 0 else 0) = y0 ∧ (if 0 ≤ (m : Int) then (D.lim R2.toNat).getD (m : Int).toNat 0 else 0) = y1 ∧ (if 0 ≤ ((m : Int) - 1) then (D.lim R2.toNat).getD ((m : Int) - 1).toNat 0 else 0) = y2) := ⟨hy0, hy1, hy2⟩
        have hm0 : ((m : Int) - 1).toNat = m - 1 := by omega
        rw [if_pos (by omega), show ((m : Int) + 1).toNat = m - 1 + 2 by omega] at hy0
        rw [if_pos (by omega), show ((m : Int)).toNat = m - 1 + 1 by omega] at hy1
        rw [if_pos (by omega), hm0] at hy2
        have u0 : D.U16 y0 := hy0 ▸ (D.lim_u16 _).at _
        have u1 : D.U16 y1 := hy1 ▸ (D.lim_u16 _).at _
        have u2 : D.U16 y2 := hy2 ▸ (D.lim_u16 _).at _
        obtain ⟨u01, u02⟩ := u0
        obtain ⟨u11, u12⟩ := u1
        obtain ⟨u21, u22⟩ := u2
        have hge : R2 < (((y0 * 65536 + y1) * 65536 + y2) / tp + 1) * M := by
          obtain ⟨lo, hl0, hl1, hl2⟩ := D.top3 (D.lim_u16 R2.toNat) (m - 1) (by omega)
          obtain ⟨hB1', uB, vB, hm', hbt, hbs⟩ := HB.out
          obtain ⟨lo', hl0', hl1', hl2'⟩ := D.top2 uB (m - 1) (by omega)
          rw [D.val_limI hR20, hy0, hy1, hy2] at hl2
          rw [vB, show m - 1 + 1 = m by omega, hbt] at hl2'
          rw [if_pos (by omega), hm0] at hbs
          rw [hbs, HTP.out] at hl2'
          exact D.guess_ge (D.pow_pos16 _) hl1 hl0' hl2 hl2' htp0 (by omega)
        clear hy0 hy1 hy2 hm0
        have hq0 : 0 ≤ ((y0 * 65536 + y1) * 65536 + y2) / tp := Int.ediv_nonneg (by omega) (by omega)
        have hq1 : ((y0 * 65536 + y1) * 65536 + y2) / tp ≤ (y0 * 65536 + y1) * 65536 + y2 := Int.ediv_le_self _ (by omega)
        obtain ⟨gg, hgg⟩ : ∃ gg, ((y0 * 65536 + y1) * 65536 + y2) / tp = gg := ⟨_, rfl⟩
        rw [hgg] at hge hq0 hq1
        have hmi : (m : Int) + 1 - 2 = (m : Int) - 1 := by omega
        by_cases hbig : 65535 < gg
        · have hg0 : (0 : Int) ≤ 65535 := by decide
          have hg1 : (65535 : Int) ≤ 65535 := by decide
          have HG : Hid (R2 < (65535 + 1) * M) := by show R2 < (65535 + 1) * M; omega
          have ug : D.U16s [65535] := D.U16s.cons ⟨hg0, by omega⟩ D.U16s.nil
          have HMg : Hid (D.val (D.lim M.toNat) * D.val [65535] = M * 65535) := by show D.val (D.lim M.toNat) * D.val [65535] = M * 65535; rw [D.val_limI (by omega)]; simp [D.val]
          clear hge hq0 hq1
          go_wp2_with (first
            | (at_builtin; refine wpList_ap rfl (.tmp 41) (.tmp 42) 73 73 rfl .u64 43 8 Tryz.und64 Tryz.info64 (by decide) wr.heap.size _ [x] (by rfl) (Row.arr (S := [x]) (arr_new rfl rfl) (Nat.le_refl _) (len1 x)) _ (D.lim R1.toNat) (by rfl) (src_sl Tryz.und64 (al1 hr.sl)) (by simp only [List.length_singleton]; omega) (by simp) ?_; intro v2 w2 hrow2 hg2; have hB2 : Below wr.heap.size wr w2 := (al (Below.refl _ _)).trans (hg2.below (Row.arr (B := wr.heap.size) (S := [x]) (arr_new rfl rfl) (Nat.le_refl _) (len1 x)) (by simp)); have hb2 := below_sl hB2 hbw)
            | (go_at_call 67; refine (plain_new _ _ hrow2.sln HP.out.1 HP.out.2.1 R2 HP.out.2.2).mono ?_; rintro e w' ⟨r2, rfl, hr2, rfl⟩)
            | (go_at_call 92; refine (order_any _ _ _ _ hr2.sl hb2 (D.lim_u16 _) (D.lim_u16 _) (by omega) (by omega) c HC.out).mono ?_; rintro e w' ⟨rfl, rfl⟩)
            | (go_at_call 75; replace hdA := hdA; replace hdB := hdB; refine (digit_any _ (D.lim R2.toNat) hr2.sl (by omega) ((m : Int) - 1) (by omega) y2 HY.out.2.2).mono ?_; rintro e w' ⟨rfl, rfl⟩; clear hdA hdB)
            | (go_at_call 75; replace hdA := hdA; refine (digit_any _ (D.lim R2.toNat) hr2.sl (by omega) ((m : Int)) (by omega) y1 HY.out.2.1).mono ?_; rintro e w' ⟨rfl, rfl⟩; have hdB := trivial)
            | (go_at_call 75; refine (digit_any _ (D.lim R2.toNat) hr2.sl (by omega) ((m : Int) + 1) (by omega) y0 HY.out.1).mono ?_; rintro e w' ⟨rfl, rfl⟩; have hdA := trivial)
            | (go_at_call 73; refine (mul_any _ _ _ [65535] (al1 hb2) (Arr.sl64 (S := [65535]) (arr_new rfl rfl)) (D.lim_u16 _) ug (by omega) (by simp) (M * 65535) HMg.out).mono ?_; rintro e w5 ⟨p, rfl, hp, hB5⟩))
          have HW : Hid (Below wr.heap.size wr w5) := (al hB2).trans (hB5.mono (by have := hB2.size; simp; omega))
          have hr5 : SlN .u64 wr.heap.size w5 r2 (D.lim R2.toNat) := (hr2.below (al (Below.refl _ _))).below hB5
          have hb5 : Sl .u64 w5 (.slice (some ⟨bb, ob, none⟩) (m + 1) cu) (D.lim M.toNat) := below_sl hB5 (al1 hb2)
          clear hB5 hr2 hb2 hrow2 hg2 hB2 hr hbw
          obtain ⟨w0, hw0⟩ : ∃ w0, wr = w0 := ⟨_, rfl⟩
          rw [hw0] at HW hr5 HS
          clear hw0 hcx
          go_loopw [12, 13] (fun gv pv wq => ∃ g' : Int, gv = .int .u64 g' ∧ 0 ≤ g' ∧ g' ≤ 65535 ∧ Sl .u64 wq pv (D.lim (M * g').toNat) ∧ Hid (R2 < (g' + 1) * M) ∧ Below w5.heap.size w5 wq) (fun gv _ _ => (intOf gv).toNat)
          case atStart => exact ⟨65535, by rfl, hg0, hg1, hp, HG.out, Below.refl _ _⟩
          case round =>
            clear hp hg0 hg1 HG HMg ug HC HP
            obtain ⟨g', rfl, hg0, hg1, hp, HG, hBq⟩ := hrel
            have hMg : 0 ≤ M * g' := Int.mul_nonneg (by omega) hg0
            have hrq := hr5.below hBq
            have hbq := below_sl hBq hb5
            have lp : (D.lim (M * g').toNat).length ≤ 8192 := by
              refine D.lim_fits hMg ?_
              have h1 : M * g' < 65536 * 65536 ^ 4096 := by
                calc M * g' ≤ M * 65535 := Int.mul_le_mul_of_nonneg_left hg1 (by omega)
                  _ < 65536 * 65536 ^ 4096 := by have := HMb.out; omega
              have h2 := D.pow_mono (show 4096 + 1 ≤ 8192 by decide)
              rw [D.pow_succ16] at h2; omega
            by_cases hgt : R2 < M * g'
            · have HC : Hid (cmpI (D.val (D.lim (M * g').toNat)) (D.val (D.lim R2.toNat)) = 1) := by rw [D.val_limI hMg, D.val_limI hR20]; unfold cmpI; rw [if_neg (by omega), if_pos hgt]; rfl
              have hgp : 0 < g' := by
                apply Decidable.byContradiction
                intro hc
                have : g' = 0 := by omega
                subst this; simp at hgt; omega
              have HN : Hid (D.val (D.lim (M * g').toNat) - D.val (D.lim M.toNat) = M * (g' - 1)) := by rw [D.val_limI hMg, D.val_limI (by omega), Int.mul_sub, Int.mul_one]; rfl
              have hn0 : 0 ≤ M * (g' - 1) := Int.mul_nonneg (by omega) (by omega)
              have HG' : Hid (R2 < (g' - 1 + 1) * M) := by rw [show g' - 1 + 1 = g' by omega, Int.mul_comm]; exact hgt
              clear HG hgt hMg
              go_wp2_with (first
                | (go_at_call 92; refine (order_any _ _ _ _ hp hrq.sl (D.lim_u16 _) (D.lim_u16 _) (by omega) (by omega) 1 HC.out).mono ?_; rintro e w' ⟨rfl, rfl⟩)
                | (go_at_call 93; refine (sub_any _ _ _ _ hp hbq (D.lim_u16 _) (D.lim_u16 _) (by omega) (by omega) (M * (g' - 1)) HN.out hn0).mono ?_; rintro e w6 ⟨p2, rfl, hp2, hB6⟩))
              go_roundw
              case rel => exact ⟨g' - 1, by go_num, by omega, by omega, hp2, HG'.out, hBq.trans (hB6.mono hBq.size)⟩
              case measure => simp [intOf]; omega
            · obtain ⟨c, hc⟩ : ∃ c, cmpI (D.val (D.lim (M * g').toNat)) (D.val (D.lim R2.toNat)) = c := ⟨_, rfl⟩
              have hc0 : ¬ 0 < c := by rw [← hc, D.val_limI hMg, D.val_limI hR20]; unfold cmpI; split <;> (try split) <;> omega
              have HC : Hid (cmpI (D.val (D.lim (M * g').toNat)) (D.val (D.lim R2.toNat)) = c) := hc
              have HN : Hid (D.val (D.lim R2.toNat) - D.val (D.lim (M * g').toNat) = R2 - M * g') := by rw [D.val_limI hMg, D.val_limI hR20]; rfl
              have hn0 : 0 ≤ R2 - M * g' := by omega
              have HD : Hid ((x + 65536 * hi) / M = g' + 65536 * (hi / M) ∧ (x + 65536 * hi) % M = R2 - M * g') := by
                have h1 := D.div_step (a := x) (R := R1) (g := g') hM HR1.out (by rw [HR2.out, Int.mul_comm]; omega) (by rw [HR2.out]; exact HG.out)
                rw [HR2.out, Int.mul_comm g' M] at h1; exact h1
              have hBr : Below w0.heap.size w0 wr := HW.out.trans (hBq.mono HW.out.size)
              have HBr : Hid (Below w0.heap.size w0 wr) := hBr
              have hltS : w.heap.size < wr.heap.size := by have := HS.out.1.lt; have := hBr.size; omega
              have hSq : Arr .u64 43 wr w.heap.size S := below_arr hBr HS.out.1.lt HS.out.1
              have hcell := hSq.cell k (by have := HS.out.2.2.1; omega)
              rw [HS.out.2.2.2.1 k (by omega)] at hcell
              have hfz := hSq.frozen k
              clear hc hgt hMg HG hBr
              go_wp2_with (first
                | (go_at_call 92; refine (order_any _ _ _ _ hp hrq.sl (D.lim_u16 _) (D.lim_u16 _) (by omega) (by omega) c HC.out).mono ?_; rintro e w' ⟨rfl, rfl⟩)
                | (go_at_call 93; refine (sub_new _ _ _ _ hrq.sl hp (D.lim_u16 _) (D.lim_u16 _) (by omega) (by omega) (R2 - M * g') HN.out hn0).mono ?_; rintro e w6 ⟨r3, rfl, hr3, hB6⟩; replace hSq := below_arr hB6 hSq.lt hSq; rw [← hB6.cell (p := ⟨w.heap.size, k, none⟩) hltS] at hcell; rw [← hB6.frozen (p := ⟨w.heap.size, k, none⟩) hltS] at hfz))
              go_roundw
              case rel =>
                obtain ⟨hS, uS, lS, hz, hdv, hBt⟩ := HS.out
                obtain ⟨e1, e2⟩ := HD.out
                have hlt1 := hS.lt
                have hs1 := HBr.out.size
                refine ⟨k, S.set k g', x + 65536 * hi, by go_num, by omega, ?_, ?_, hSq.set _ _, uS.set _ ⟨hg0, by omega⟩, by simpa using lS, fun j hj => ?_, ?_, ?_⟩
                · rw [D.drop_step A k hk', HX.out, HHI.out]
                · rw [e2]
                  exact SlN.mono (B := wr.heap.size) (hr3.upd (Upd.set _ w.heap.size k _) (by omega)) (by omega)
                · rw [List.getD_eq_getElem?_getD, List.getElem?_set_ne (by omega), ← List.getD_eq_getElem?_getD]; exact hz j (by omega)
                · rw [D.drop_set g' (by omega), e1, hdv]
                · exact ((hBt.trans (HBr.out.mono hBt.size)).trans (hB6.mono (by omega))).setCell (Nat.le_refl _) _
              case measure => simp [intOf]

        · have hg0 : (0 : Int) ≤ gg := hq0
          have hg1 : (gg : Int) ≤ 65535 := by omega
          have HG : Hid (R2 < (gg + 1) * M) := hge
          have ug : D.U16s [gg] := D.U16s.cons ⟨hg0, by omega⟩ D.U16s.nil
          have HMg : Hid (D.val (D.lim M.toNat) * D.val [gg] = M * gg) := by show D.val (D.lim M.toNat) * D.val [gg] = M * gg; rw [D.val_limI (by omega)]; simp [D.val]
          clear hge hq0 hq1
          go_wp2_with (first
            | (at_builtin; refine wpList_ap rfl (.tmp 41) (.tmp 42) 73 73 rfl .u64 43 8 Tryz.und64 Tryz.info64 (by decide) wr.heap.size _ [x] (by rfl) (Row.arr (S := [x]) (arr_new rfl rfl) (Nat.le_refl _) (len1 x)) _ (D.lim R1.toNat) (by rfl) (src_sl Tryz.und64 (al1 hr.sl)) (by simp only [List.length_singleton]; omega) (by simp) ?_; intro v2 w2 hrow2 hg2; have hB2 : Below wr.heap.size wr w2 := (al (Below.refl _ _)).trans (hg2.below (Row.arr (B := wr.heap.size) (S := [x]) (arr_new rfl rfl) (Nat.le_refl _) (len1 x)) (by simp)); have hb2 := below_sl hB2 hbw)
            | (go_at_call 67; refine (plain_new _ _ hrow2.sln HP.out.1 HP.out.2.1 R2 HP.out.2.2).mono ?_; rintro e w' ⟨r2, rfl, hr2, rfl⟩)
            | (go_at_call 92; refine (order_any _ _ _ _ hr2.sl hb2 (D.lim_u16 _) (D.lim_u16 _) (by omega) (by omega) c HC.out).mono ?_; rintro e w' ⟨rfl, rfl⟩)
            | (go_at_call 75; replace hdA := hdA; replace hdB := hdB; refine (digit_any _ (D.lim R2.toNat) hr2.sl (by omega) ((m : Int) - 1) (by omega) y2 HY.out.2.2).mono ?_; rintro e w' ⟨rfl, rfl⟩; clear hdA hdB)
            | (go_at_call 75; replace hdA := hdA; refine (digit_any _ (D.lim R2.toNat) hr2.sl (by omega) ((m : Int)) (by omega) y1 HY.out.2.1).mono ?_; rintro e w' ⟨rfl, rfl⟩; have hdB := trivial)
            | (go_at_call 75; refine (digit_any _ (D.lim R2.toNat) hr2.sl (by omega) ((m : Int) + 1) (by omega) y0 HY.out.1).mono ?_; rintro e w' ⟨rfl, rfl⟩; have hdA := trivial)
            | (go_at_call 73; refine (mul_any _ _ _ [gg] (al1 hb2) (Arr.sl64 (S := [gg]) (arr_new rfl rfl)) (D.lim_u16 _) ug (by omega) (by simp) (M * gg) HMg.out).mono ?_; rintro e w5 ⟨p, rfl, hp, hB5⟩))
          have HW : Hid (Below wr.heap.size wr w5) := (al hB2).trans (hB5.mono (by have := hB2.size; simp; omega))
          have hr5 : SlN .u64 wr.heap.size w5 r2 (D.lim R2.toNat) := (hr2.below (al (Below.refl _ _))).below hB5
          have hb5 : Sl .u64 w5 (.slice (some ⟨bb, ob, none⟩) (m + 1) cu) (D.lim M.toNat) := below_sl hB5 (al1 hb2)
          clear hB5 hr2 hb2 hrow2 hg2 hB2 hr hbw
          obtain ⟨w0, hw0⟩ : ∃ w0, wr = w0 := ⟨_, rfl⟩
          rw [hw0] at HW hr5 HS
          clear hw0 hcx
          go_loopw [12, 13] (fun gv pv wq => ∃ g' : Int, gv = .int .u64 g' ∧ 0 ≤ g' ∧ g' ≤ 65535 ∧ Sl .u64 wq pv (D.lim (M * g').toNat) ∧ Hid (R2 < (g' + 1) * M) ∧ Below w5.heap.size w5 wq) (fun gv _ _ => (intOf gv).toNat)
          case atStart => exact ⟨gg, by rfl, hg0, hg1, hp, HG.out, Below.refl _ _⟩
          case round =>
            clear hp hg0 hg1 HG HMg ug HC HP
            obtain ⟨g', rfl, hg0, hg1, hp, HG, hBq⟩ := hrel
            have hMg : 0 ≤ M * g' := Int.mul_nonneg (by omega) hg0
            have hrq := hr5.below hBq
            have hbq := below_sl hBq hb5
            have lp : (D.lim (M * g').toNat).length ≤ 8192 := by
              refine D.lim_fits hMg ?_
              have h1 : M * g' < 65536 * 65536 ^ 4096 := by
                calc M * g' ≤ M * 65535 := Int.mul_le_mul_of_nonneg_left hg1 (by omega)
                  _ < 65536 * 65536 ^ 4096 := by have := HMb.out; omega
              have h2 := D.pow_mono (show 4096 + 1 ≤ 8192 by decide)
              rw [D.pow_succ16] at h2; omega
            by_cases hgt : R2 < M * g'
            · have HC : Hid (cmpI (D.val (D.lim (M * g').toNat)) (D.val (D.lim R2.toNat)) = 1) := by rw [D.val_limI hMg, D.val_limI hR20]; unfold cmpI; rw [if_neg (by omega), if_pos hgt]; rfl
              have hgp : 0 < g' := by
                apply Decidable.byContradiction
                intro hc
                have : g' = 0 := by omega
                subst this; simp at hgt; omega
              have HN : Hid (D.val (D.lim (M * g').toNat) - D.val (D.lim M.toNat) = M * (g' - 1)) := by rw [D.val_limI hMg, D.val_limI (by omega), Int.mul_sub, Int.mul_one]; rfl
              have hn0 : 0 ≤ M * (g' - 1) := Int.mul_nonneg (by omega) (by omega)
              have HG' : Hid (R2 < (g' - 1 + 1) * M) := by rw [show g' - 1 + 1 = g' by omega, Int.mul_comm]; exact hgt
              clear HG hgt hMg
              go_wp2_with (first
                | (go_at_call 92; refine (order_any _ _ _ _ hp hrq.sl (D.lim_u16 _) (D.lim_u16 _) (by omega) (by omega) 1 HC.out).mono ?_; rintro e w' ⟨rfl, rfl⟩)
                | (go_at_call 93; refine (sub_any _ _ _ _ hp hbq (D.lim_u16 _) (D.lim_u16 _) (by omega) (by omega) (M * (g' - 1)) HN.out hn0).mono ?_; rintro e w6 ⟨p2, rfl, hp2, hB6⟩))
              go_roundw
              case rel => exact ⟨g' - 1, by go_num, by omega, by omega, hp2, HG'.out, hBq.trans (hB6.mono hBq.size)⟩
              case measure => simp [intOf]; omega
            · obtain ⟨c, hc⟩ : ∃ c, cmpI (D.val (D.lim (M * g').toNat)) (D.val (D.lim R2.toNat)) = c := ⟨_, rfl⟩
              have hc0 : ¬ 0 < c := by rw [← hc, D.val_limI hMg, D.val_limI hR20]; unfold cmpI; split <;> (try split) <;> omega
              have HC : Hid (cmpI (D.val (D.lim (M * g').toNat)) (D.val (D.lim R2.toNat)) = c) := hc
              have HN : Hid (D.val (D.lim R2.toNat) - D.val (D.lim (M * g').toNat) = R2 - M * g') := by rw [D.val_limI hMg, D.val_limI hR20]; rfl
              have hn0 : 0 ≤ R2 - M * g' := by omega
              have HD : Hid ((x + 65536 * hi) / M = g' + 65536 * (hi / M) ∧ (x + 65536 * hi) % M = R2 - M * g') := by
                have h1 := D.div_step (a := x) (R := R1) (g := g') hM HR1.out (by rw [HR2.out, Int.mul_comm]; omega) (by rw [HR2.out]; exact HG.out)
                rw [HR2.out, Int.mul_comm g' M] at h1; exact h1
              have hBr : Below w0.heap.size w0 wr := HW.out.trans (hBq.mono HW.out.size)
              have HBr : Hid (Below w0.heap.size w0 wr) := hBr
              have hltS : w.heap.size < wr.heap.size := by have := HS.out.1.lt; have := hBr.size; omega
              have hSq : Arr .u64 43 wr w.heap.size S := below_arr hBr HS.out.1.lt HS.out.1
              have hcell := hSq.cell k (by have := HS.out.2.2.1; omega)
              rw [HS.out.2.2.2.1 k (by omega)] at hcell
              have hfz := hSq.frozen k
              clear hc hgt hMg HG hBr
              go_wp2_with (first
                | (go_at_call 92; refine (order_any _ _ _ _ hp hrq.sl (D.lim_u16 _) (D.lim_u16 _) (by omega) (by omega) c HC.out).mono ?_; rintro e w' ⟨rfl, rfl⟩)
                | (go_at_call 93; refine (sub_new _ _ _ _ hrq.sl hp (D.lim_u16 _) (D.lim_u16 _) (by omega) (by omega) (R2 - M * g') HN.out hn0).mono ?_; rintro e w6 ⟨r3, rfl, hr3, hB6⟩; replace hSq := below_arr hB6 hSq.lt hSq; rw [← hB6.cell (p := ⟨w.heap.size, k, none⟩) hltS] at hcell; rw [← hB6.frozen (p := ⟨w.heap.size, k, none⟩) hltS] at hfz))
              go_roundw
              case rel =>
                obtain ⟨hS, uS, lS, hz, hdv, hBt⟩ := HS.out
                obtain ⟨e1, e2⟩ := HD.out
                have hlt1 := hS.lt
                have hs1 := HBr.out.size
                refine ⟨k, S.set k g', x + 65536 * hi, by go_num, by omega, ?_, ?_, hSq.set _ _, uS.set _ ⟨hg0, by omega⟩, by simpa using lS, fun j hj => ?_, ?_, ?_⟩
                · rw [D.drop_step A k hk', HX.out, HHI.out]
                · rw [e2]
                  exact SlN.mono (B := wr.heap.size) (hr3.upd (Upd.set _ w.heap.size k _) (by omega)) (by omega)
                · rw [List.getD_eq_getElem?_getD, List.getElem?_set_ne (by omega), ← List.getD_eq_getElem?_getD]; exact hz j (by omega)
                · rw [D.drop_set g' (by omega), e1, hdv]
                · exact ((hBt.trans (HBr.out.mono hBt.size)).trans (hB6.mono (by omega))).setCell (Nat.le_refl _) _
              case measure => simp [intOf]

      · have hmi : ¬ (2 : Int) ≤ (m : Int) + 1 := by omega
        obtain ⟨y0, hy0⟩ : ∃ y, (if 0 ≤ (1 : Int) then (D.lim R2.toNat).getD (1 : Int).toNat 0 else 0) = y := ⟨_, rfl⟩
        obtain ⟨y1, hy1⟩ : ∃ y, (if 0 ≤ (0 : Int) then (D.lim R2.toNat).getD (0 : Int).toNat 0 else 0) = y := ⟨_, rfl⟩
        have HY : Hid ((if 0 ≤ (1 : Int) then (D.lim R2.toNat).getD (1 : Int).toNat 0 else 0) = y0 ∧ (if 0 ≤ (0 : Int) then (D.lim R2.toNat).getD (0 : Int).toNat 0 else 0) = y1) := ⟨hy0, hy1⟩
        rw [if_pos (by omega)] at hy0 hy1
        have u0 : D.U16 y0 := hy0 ▸ (D.lim_u16 _).at _
        have u1 : D.U16 y1 := hy1 ▸ (D.lim_u16 _).at _
        obtain ⟨u01, u02⟩ := u0
        obtain ⟨u11, u12⟩ := u1
        have hge : R2 < ((y0 * 65536 + y1) * 65536 / tp + 1) * M := by
          have hm0 : m = 0 := by omega
          obtain ⟨lo, hl0, hl1, hl2⟩ := D.top2 (D.lim_u16 R2.toNat) 0 (by omega)
          obtain ⟨hB1', uB, vB, hm', hbt, hbs⟩ := HB.out
          rw [hm0] at hm' hbt hbs
          have hl2' : M = bt := by
            rw [← vB]
            match Bs, hm' with
            | [z], _ => simp only [D.val]; simp at hbt; omega
          rw [if_neg (by omega)] at hbs
          rw [D.val_limI hR20] at hl2
          have e0 : (D.lim R2.toNat).getD (0 + 1) 0 = y0 := hy0
          have e1 : (D.lim R2.toNat).getD 0 0 = y1 := hy1
          rw [e0, e1] at hl2
          have hlo : lo = 0 := by simp at hl1; omega
          have e2 : (y0 * 65536 + y1) * 65536 / tp = (y0 * 65536 + y1) / bt := by
            rw [← HTP.out, ← hbs, Int.add_zero]; exact Int.mul_ediv_mul_of_pos_left _ _ (by decide)
          rw [e2]
          exact D.guess_ge (P := 1) (lo := 0) (lo' := 0) (by decide) (by decide) (by decide) (by rw [hl2, hlo]; simp) (by rw [hl2']; simp) (by omega) (by omega)
        clear hy0 hy1
        have hq0 : 0 ≤ (y0 * 65536 + y1) * 65536 / tp := Int.ediv_nonneg (by omega) (by omega)
        have hq1 : (y0 * 65536 + y1) * 65536 / tp ≤ (y0 * 65536 + y1) * 65536 := Int.ediv_le_self _ (by omega)
        obtain ⟨gg, hgg⟩ : ∃ gg, (y0 * 65536 + y1) * 65536 / tp = gg := ⟨_, rfl⟩
        rw [hgg] at hge hq0 hq1
        by_cases hbig : 65535 < gg
        · have hg0 : (0 : Int) ≤ 65535 := by decide
          have hg1 : (65535 : Int) ≤ 65535 := by decide
          have HG : Hid (R2 < (65535 + 1) * M) := by show R2 < (65535 + 1) * M; omega
          have ug : D.U16s [65535] := D.U16s.cons ⟨hg0, by omega⟩ D.U16s.nil
          have HMg : Hid (D.val (D.lim M.toNat) * D.val [65535] = M * 65535) := by show D.val (D.lim M.toNat) * D.val [65535] = M * 65535; rw [D.val_limI (by omega)]; simp [D.val]
          clear hge hq0 hq1
          go_wp2_with (first
            | (at_builtin; refine wpList_ap rfl (.tmp 41) (.tmp 42) 73 73 rfl .u64 43 8 Tryz.und64 Tryz.info64 (by decide) wr.heap.size _ [x] (by rfl) (Row.arr (S := [x]) (arr_new rfl rfl) (Nat.le_refl _) (len1 x)) _ (D.lim R1.toNat) (by rfl) (src_sl Tryz.und64 (al1 hr.sl)) (by simp only [List.length_singleton]; omega) (by simp) ?_; intro v2 w2 hrow2 hg2; have hB2 : Below wr.heap.size wr w2 := (al (Below.refl _ _)).trans (hg2.below (Row.arr (B := wr.heap.size) (S := [x]) (arr_new rfl rfl) (Nat.le_refl _) (len1 x)) (by simp)); have hb2 := below_sl hB2 hbw)
            | (go_at_call 67; refine (plain_new _ _ hrow2.sln HP.out.1 HP.out.2.1 R2 HP.out.2.2).mono ?_; rintro e w' ⟨r2, rfl, hr2, rfl⟩)
            | (go_at_call 92; refine (order_any _ _ _ _ hr2.sl hb2 (D.lim_u16 _) (D.lim_u16 _) (by omega) (by omega) c HC.out).mono ?_; rintro e w' ⟨rfl, rfl⟩)
            | (go_at_call 75; replace hdA := hdA; refine (digit_any _ (D.lim R2.toNat) hr2.sl (by omega) (0) (by omega) y1 HY.out.2).mono ?_; rintro e w' ⟨rfl, rfl⟩; clear hdA)
            | (go_at_call 75; refine (digit_any _ (D.lim R2.toNat) hr2.sl (by omega) (1) (by omega) y0 HY.out.1).mono ?_; rintro e w' ⟨rfl, rfl⟩; have hdA := trivial)
            | (go_at_call 73; refine (mul_any _ _ _ [65535] (al1 hb2) (Arr.sl64 (S := [65535]) (arr_new rfl rfl)) (D.lim_u16 _) ug (by omega) (by simp) (M * 65535) HMg.out).mono ?_; rintro e w5 ⟨p, rfl, hp, hB5⟩))
          have HW : Hid (Below wr.heap.size wr w5) := (al hB2).trans (hB5.mono (by have := hB2.size; simp; omega))
          have hr5 : SlN .u64 wr.heap.size w5 r2 (D.lim R2.toNat) := (hr2.below (al (Below.refl _ _))).below hB5
          have hb5 : Sl .u64 w5 (.slice (some ⟨bb, ob, none⟩) (m + 1) cu) (D.lim M.toNat) := below_sl hB5 (al1 hb2)
          clear hB5 hr2 hb2 hrow2 hg2 hB2 hr hbw
          obtain ⟨w0, hw0⟩ : ∃ w0, wr = w0 := ⟨_, rfl⟩
          rw [hw0] at HW hr5 HS
          clear hw0 hcx
          go_loopw [12, 13] (fun gv pv wq => ∃ g' : Int, gv = .int .u64 g' ∧ 0 ≤ g' ∧ g' ≤ 65535 ∧ Sl .u64 wq pv (D.lim (M * g').toNat) ∧ Hid (R2 < (g' + 1) * M) ∧ Below w5.heap.size w5 wq) (fun gv _ _ => (intOf gv).toNat)
          case atStart => exact ⟨65535, by rfl, hg0, hg1, hp, HG.out, Below.refl _ _⟩
          case round =>
            clear hp hg0 hg1 HG HMg ug HC HP
            obtain ⟨g', rfl, hg0, hg1, hp, HG, hBq⟩ := hrel
            have hMg : 0 ≤ M * g' := Int.mul_nonneg (by omega) hg0
            have hrq := hr5.below hBq
            have hbq := below_sl hBq hb5
            have lp : (D.lim (M * g').toNat).length ≤ 8192 := by
              refine D.lim_fits hMg ?_
              have h1 : M * g' < 65536 * 65536 ^ 4096 := by
                calc M * g' ≤ M * 65535 := Int.mul_le_mul_of_nonneg_left hg1 (by omega)
                  _ < 65536 * 65536 ^ 4096 := by have := HMb.out; omega
              have h2 := D.pow_mono (show 4096 + 1 ≤ 8192 by decide)
              rw [D.pow_succ16] at h2; omega
            by_cases hgt : R2 < M * g'
            · have HC : Hid (cmpI (D.val (D.lim (M * g').toNat)) (D.val (D.lim R2.toNat)) = 1) := by rw [D.val_limI hMg, D.val_limI hR20]; unfold cmpI; rw [if_neg (by omega), if_pos hgt]; rfl
              have hgp : 0 < g' := by
                apply Decidable.byContradiction
                intro hc
                have : g' = 0 := by omega
                subst this; simp at hgt; omega
              have HN : Hid (D.val (D.lim (M * g').toNat) - D.val (D.lim M.toNat) = M * (g' - 1)) := by rw [D.val_limI hMg, D.val_limI (by omega), Int.mul_sub, Int.mul_one]; rfl
              have hn0 : 0 ≤ M * (g' - 1) := Int.mul_nonneg (by omega) (by omega)
              have HG' : Hid (R2 < (g' - 1 + 1) * M) := by rw [show g' - 1 + 1 = g' by omega, Int.mul_comm]; exact hgt
              clear HG hgt hMg
              go_wp2_with (first
                | (go_at_call 92; refine (order_any _ _ _ _ hp hrq.sl (D.lim_u16 _) (D.lim_u16 _) (by omega) (by omega) 1 HC.out).mono ?_; rintro e w' ⟨rfl, rfl⟩)
                | (go_at_call 93; refine (sub_any _ _ _ _ hp hbq (D.lim_u16 _) (D.lim_u16 _) (by omega) (by omega) (M * (g' - 1)) HN.out hn0).mono ?_; rintro e w6 ⟨p2, rfl, hp2, hB6⟩))
              go_roundw
              case rel => exact ⟨g' - 1, by go_num, by omega, by omega, hp2, HG'.out, hBq.trans (hB6.mono hBq.size)⟩
              case measure => simp [intOf]; omega
            · obtain ⟨c, hc⟩ : ∃ c, cmpI (D.val (D.lim (M * g').toNat)) (D.val (D.lim R2.toNat)) = c := ⟨_, rfl⟩
              have hc0 : ¬ 0 < c := by rw [← hc, D.val_limI hMg, D.val_limI hR20]; unfold cmpI; split <;> (try split) <;> omega
              have HC : Hid (cmpI (D.val (D.lim (M * g').toNat)) (D.val (D.lim R2.toNat)) = c) := hc
              have HN : Hid (D.val (D.lim R2.toNat) - D.val (D.lim (M * g').toNat) = R2 - M * g') := by rw [D.val_limI hMg, D.val_limI hR20]; rfl
              have hn0 : 0 ≤ R2 - M * g' := by omega
              have HD : Hid ((x + 65536 * hi) / M = g' + 65536 * (hi / M) ∧ (x + 65536 * hi) % M = R2 - M * g') := by
                have h1 := D.div_step (a := x) (R := R1) (g := g') hM HR1.out (by rw [HR2.out, Int.mul_comm]; omega) (by rw [HR2.out]; exact HG.out)
                rw [HR2.out, Int.mul_comm g' M] at h1; exact h1
              have hBr : Below w0.heap.size w0 wr := HW.out.trans (hBq.mono HW.out.size)
              have HBr : Hid (Below w0.heap.size w0 wr) := hBr
              have hltS : w.heap.size < wr.heap.size := by have := HS.out.1.lt; have := hBr.size; omega
              have hSq : Arr .u64 43 wr w.heap.size S := below_arr hBr HS.out.1.lt HS.out.1
              have hcell := hSq.cell k (by have := HS.out.2.2.1; omega)
              rw [HS.out.2.2.2.1 k (by omega)] at hcell
              have hfz := hSq.frozen k
              clear hc hgt hMg HG hBr
              go_wp2_with (first
                | (go_at_call 92; refine (order_any _ _ _ _ hp hrq.sl (D.lim_u16 _) (D.lim_u16 _) (by omega) (by omega) c HC.out).mono ?_; rintro e w' ⟨rfl, rfl⟩)
                | (go_at_call 93; refine (sub_new _ _ _ _ hrq.sl hp (D.lim_u16 _) (D.lim_u16 _) (by omega) (by omega) (R2 - M * g') HN.out hn0).mono ?_; rintro e w6 ⟨r3, rfl, hr3, hB6⟩; replace hSq := below_arr hB6 hSq.lt hSq; rw [← hB6.cell (p := ⟨w.heap.size, k, none⟩) hltS] at hcell; rw [← hB6.frozen (p := ⟨w.heap.size, k, none⟩) hltS] at hfz))
              go_roundw
              case rel =>
                obtain ⟨hS, uS, lS, hz, hdv, hBt⟩ := HS.out
                obtain ⟨e1, e2⟩ := HD.out
                have hlt1 := hS.lt
                have hs1 := HBr.out.size
                refine ⟨k, S.set k g', x + 65536 * hi, by go_num, by omega, ?_, ?_, hSq.set _ _, uS.set _ ⟨hg0, by omega⟩, by simpa using lS, fun j hj => ?_, ?_, ?_⟩
                · rw [D.drop_step A k hk', HX.out, HHI.out]
                · rw [e2]
                  exact SlN.mono (B := wr.heap.size) (hr3.upd (Upd.set _ w.heap.size k _) (by omega)) (by omega)
                · rw [List.getD_eq_getElem?_getD, List.getElem?_set_ne (by omega), ← List.getD_eq_getElem?_getD]; exact hz j (by omega)
                · rw [D.drop_set g' (by omega), e1, hdv]
                · exact ((hBt.trans (HBr.out.mono hBt.size)).trans (hB6.mono (by omega))).setCell (Nat.le_refl _) _
              case measure => simp [intOf]

        · have hg0 : (0 : Int) ≤ gg := hq0
          have hg1 : (gg : Int) ≤ 65535 := by omega
          have HG : Hid (R2 < (gg + 1) * M) := hge
          have ug : D.U16s [gg] := D.U16s.cons ⟨hg0, by omega⟩ D.U16s.nil
          have HMg : Hid (D.val (D.lim M.toNat) * D.val [gg] = M * gg) := by show D.val (D.lim M.toNat) * D.val [gg] = M * gg; rw [D.val_limI (by omega)]; simp [D.val]
          clear hge hq0 hq1
          go_wp2_with (first
            | (at_builtin; refine wpList_ap rfl (.tmp 41) (.tmp 42) 73 73 rfl .u64 43 8 Tryz.und64 Tryz.info64 (by decide) wr.heap.size _ [x] (by rfl) (Row.arr (S := [x]) (arr_new rfl rfl) (Nat.le_refl _) (len1 x)) _ (D.lim R1.toNat) (by rfl) (src_sl Tryz.und64 (al1 hr.sl)) (by simp only [List.length_singleton]; omega) (by simp) ?_; intro v2 w2 hrow2 hg2; have hB2 : Below wr.heap.size wr w2 := (al (Below.refl _ _)).trans (hg2.below (Row.arr (B := wr.heap.size) (S := [x]) (arr_new rfl rfl) (Nat.le_refl _) (len1 x)) (by simp)); have hb2 := below_sl hB2 hbw)
            | (go_at_call 67; refine (plain_new _ _ hrow2.sln HP.out.1 HP.out.2.1 R2 HP.out.2.2).mono ?_; rintro e w' ⟨r2, rfl, hr2, rfl⟩)
            | (go_at_call 92; refine (order_any _ _ _ _ hr2.sl hb2 (D.lim_u16 _) (D.lim_u16 _) (by omega) (by omega) c HC.out).mono ?_; rintro e w' ⟨rfl, rfl⟩)
            | (go_at_call 75; replace hdA := hdA; refine (digit_any _ (D.lim R2.toNat) hr2.sl (by omega) (0) (by omega) y1 HY.out.2).mono ?_; rintro e w' ⟨rfl, rfl⟩; clear hdA)
            | (go_at_call 75; refine (digit_any _ (D.lim R2.toNat) hr2.sl (by omega) (1) (by omega) y0 HY.out.1).mono ?_; rintro e w' ⟨rfl, rfl⟩; have hdA := trivial)
            | (go_at_call 73; refine (mul_any _ _ _ [gg] (al1 hb2) (Arr.sl64 (S := [gg]) (arr_new rfl rfl)) (D.lim_u16 _) ug (by omega) (by simp) (M * gg) HMg.out).mono ?_; rintro e w5 ⟨p, rfl, hp, hB5⟩))
          have HW : Hid (Below wr.heap.size wr w5) := (al hB2).trans (hB5.mono (by have := hB2.size; simp; omega))
          have hr5 : SlN .u64 wr.heap.size w5 r2 (D.lim R2.toNat) := (hr2.below (al (Below.refl _ _))).below hB5
          have hb5 : Sl .u64 w5 (.slice (some ⟨bb, ob, none⟩) (m + 1) cu) (D.lim M.toNat) := below_sl hB5 (al1 hb2)
          clear hB5 hr2 hb2 hrow2 hg2 hB2 hr hbw
          obtain ⟨w0, hw0⟩ : ∃ w0, wr = w0 := ⟨_, rfl⟩
          rw [hw0] at HW hr5 HS
          clear hw0 hcx
          go_loopw [12, 13] (fun gv pv wq => ∃ g' : Int, gv = .int .u64 g' ∧ 0 ≤ g' ∧ g' ≤ 65535 ∧ Sl .u64 wq pv (D.lim (M * g').toNat) ∧ Hid (R2 < (g' + 1) * M) ∧ Below w5.heap.size w5 wq) (fun gv _ _ => (intOf gv).toNat)
          case atStart => exact ⟨gg, by rfl, hg0, hg1, hp, HG.out, Below.refl _ _⟩
          case round =>
            clear hp hg0 hg1 HG HMg ug HC HP
            obtain ⟨g', rfl, hg0, hg1, hp, HG, hBq⟩ := hrel
            have hMg : 0 ≤ M * g' := Int.mul_nonneg (by omega) hg0
            have hrq := hr5.below hBq
            have hbq := below_sl hBq hb5
            have lp : (D.lim (M * g').toNat).length ≤ 8192 := by
              refine D.lim_fits hMg ?_
              have h1 : M * g' < 65536 * 65536 ^ 4096 := by
                calc M * g' ≤ M * 65535 := Int.mul_le_mul_of_nonneg_left hg1 (by omega)
                  _ < 65536 * 65536 ^ 4096 := by have := HMb.out; omega
              have h2 := D.pow_mono (show 4096 + 1 ≤ 8192 by decide)
              rw [D.pow_succ16] at h2; omega
            by_cases hgt : R2 < M * g'
            · have HC : Hid (cmpI (D.val (D.lim (M * g').toNat)) (D.val (D.lim R2.toNat)) = 1) := by rw [D.val_limI hMg, D.val_limI hR20]; unfold cmpI; rw [if_neg (by omega), if_pos hgt]; rfl
              have hgp : 0 < g' := by
                apply Decidable.byContradiction
                intro hc
                have : g' = 0 := by omega
                subst this; simp at hgt; omega
              have HN : Hid (D.val (D.lim (M * g').toNat) - D.val (D.lim M.toNat) = M * (g' - 1)) := by rw [D.val_limI hMg, D.val_limI (by omega), Int.mul_sub, Int.mul_one]; rfl
              have hn0 : 0 ≤ M * (g' - 1) := Int.mul_nonneg (by omega) (by omega)
              have HG' : Hid (R2 < (g' - 1 + 1) * M) := by rw [show g' - 1 + 1 = g' by omega, Int.mul_comm]; exact hgt
              clear HG hgt hMg
              go_wp2_with (first
                | (go_at_call 92; refine (order_any _ _ _ _ hp hrq.sl (D.lim_u16 _) (D.lim_u16 _) (by omega) (by omega) 1 HC.out).mono ?_; rintro e w' ⟨rfl, rfl⟩)
                | (go_at_call 93; refine (sub_any _ _ _ _ hp hbq (D.lim_u16 _) (D.lim_u16 _) (by omega) (by omega) (M * (g' - 1)) HN.out hn0).mono ?_; rintro e w6 ⟨p2, rfl, hp2, hB6⟩))
              go_roundw
              case rel => exact ⟨g' - 1, by go_num, by omega, by omega, hp2, HG'.out, hBq.trans (hB6.mono hBq.size)⟩
              case measure => simp [intOf]; omega
            · obtain ⟨c, hc⟩ : ∃ c, cmpI (D.val (D.lim (M * g').toNat)) (D.val (D.lim R2.toNat)) = c := ⟨_, rfl⟩
              have hc0 : ¬ 0 < c := by rw [← hc, D.val_limI hMg, D.val_limI hR20]; unfold cmpI; split <;> (try split) <;> omega
              have HC : Hid (cmpI (D.val (D.lim (M * g').toNat)) (D.val (D.lim R2.toNat)) = c) := hc
              have HN : Hid (D.val (D.lim R2.toNat) - D.val (D.lim (M * g').toNat) = R2 - M * g') := by rw [D.val_limI hMg, D.val_limI hR20]; rfl
              have hn0 : 0 ≤ R2 - M * g' := by omega
              have HD : Hid ((x + 65536 * hi) / M = g' + 65536 * (hi / M) ∧ (x + 65536 * hi) % M = R2 - M * g') := by
                have h1 := D.div_step (a := x) (R := R1) (g := g') hM HR1.out (by rw [HR2.out, Int.mul_comm]; omega) (by rw [HR2.out]; exact HG.out)
                rw [HR2.out, Int.mul_comm g' M] at h1; exact h1
              have hBr : Below w0.heap.size w0 wr := HW.out.trans (hBq.mono HW.out.size)
              have HBr : Hid (Below w0.heap.size w0 wr) := hBr
              have hltS : w.heap.size < wr.heap.size := by have := HS.out.1.lt; have := hBr.size; omega
              have hSq : Arr .u64 43 wr w.heap.size S := below_arr hBr HS.out.1.lt HS.out.1
              have hcell := hSq.cell k (by have := HS.out.2.2.1; omega)
              rw [HS.out.2.2.2.1 k (by omega)] at hcell
              have hfz := hSq.frozen k
              clear hc hgt hMg HG hBr
              go_wp2_with (first
                | (go_at_call 92; refine (order_any _ _ _ _ hp hrq.sl (D.lim_u16 _) (D.lim_u16 _) (by omega) (by omega) c HC.out).mono ?_; rintro e w' ⟨rfl, rfl⟩)
                | (go_at_call 93; refine (sub_new _ _ _ _ hrq.sl hp (D.lim_u16 _) (D.lim_u16 _) (by omega) (by omega) (R2 - M * g') HN.out hn0).mono ?_; rintro e w6 ⟨r3, rfl, hr3, hB6⟩; replace hSq := below_arr hB6 hSq.lt hSq; rw [← hB6.cell (p := ⟨w.heap.size, k, none⟩) hltS] at hcell; rw [← hB6.frozen (p := ⟨w.heap.size, k, none⟩) hltS] at hfz))
              go_roundw
              case rel =>
                obtain ⟨hS, uS, lS, hz, hdv, hBt⟩ := HS.out
                obtain ⟨e1, e2⟩ := HD.out
                have hlt1 := hS.lt
                have hs1 := HBr.out.size
                refine ⟨k, S.set k g', x + 65536 * hi, by go_num, by omega, ?_, ?_, hSq.set _ _, uS.set _ ⟨hg0, by omega⟩, by simpa using lS, fun j hj => ?_, ?_, ?_⟩
                · rw [D.drop_step A k hk', HX.out, HHI.out]
                · rw [e2]
                  exact SlN.mono (B := wr.heap.size) (hr3.upd (Upd.set _ w.heap.size k _) (by omega)) (by omega)
                · rw [List.getD_eq_getElem?_getD, List.getElem?_set_ne (by omega), ← List.getD_eq_getElem?_getD]; exact hz j (by omega)
                · rw [D.drop_set g' (by omega), e1, hdv]
                · exact ((hBt.trans (HBr.out.mono hBt.size)).trans (hB6.mono (by omega))).setCell (Nat.le_refl _) _
              case measure => simp [intOf]

end Go.Proofs.YtjmiaakfdclfjaaGreatDoor.Nt
