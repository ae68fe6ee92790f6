/-
  The reference's field: mul, the walk.
-/
import Derived.Test.YteagdgbcfbkfbaaK21
namespace Go.Proofs.Yteagdgbcfbkfbaa
open Go.RowKit
set_option maxRecDepth 20000
theorem mul_step (Q cy a b t vZ vT vB : Int) (T : Int) (hT : T = t + a * b + cy) (ih : vZ + Q * cy = vT + a * vB) : vZ + Q * (T % 4294967296) + Q * 4294967296 * (T / 4294967296) = vT + Q * t + a * (vB + Q * b) := by
  have h1 : T % 4294967296 + 4294967296 * (T / 4294967296) = T := by omega
  have h2 : Q * (T % 4294967296) + Q * 4294967296 * (T / 4294967296) = Q * T := by
    rw [Int.mul_assoc, ← Int.mul_add, h1]
  have h3 : Q * T = Q * t + Q * (a * b) + Q * cy := by rw [hT, Int.mul_add, Int.mul_add]
  have h4 : a * (Q * b) = Q * (a * b) := by rw [← Int.mul_assoc, Int.mul_comm a Q, Int.mul_assoc]
  rw [Int.mul_add, h4]
  omega
theorem five0 {w : World} (n : Nat) (P A B : List Int) (o o2 : Obj) (ho : o = .cells z13.toArray 76) (ho2 : o2 = .cells (dgC (List.replicate 26 0)).toArray 128) : Bks w (((((w.alloc (.cells (fdC n P).toArray 78)).alloc (.cells (dgC A).toArray 76)).alloc (.cells (dgC B).toArray 76)).alloc o).alloc o2) (ML n P A B (List.replicate 26 0)) := by
  subst ho ho2
  exact five _ _ _ _ _ _ _ _ _ _
set_option maxHeartbeats 4000000 in
theorem rmul_any {w : World} (n : Nat) (P A B : List Int) (dP : Dg P) (dA : Dg A) (dB : Dg B) (hn : 0 < n) (hn2 : n ≤ 12) (hP : val P < 4294967296 ^ n) (hA : val A < val P) (hB : val B < val P) :
    Calls Try.prog 74 #[.agg (fdC n P).toArray, dgA A, dgA B] w fun e w' => ∃ Z, e = .returned (dgA Z) ∧ Dg Z ∧ val Z = (val A * val B) % val P ∧ Below w.heap.size w w' := by
  have HA : Hid (Dg P ∧ Dg A ∧ Dg B ∧ val P < 4294967296 ^ n ∧ val A < val P ∧ val B < val P) := ⟨dP, dA, dB, hP, hA, hB⟩
  clear dP dA dB hP hA hB
  go_enter Try.func74, Try.ntmps74
  go_upto_region 2 with (first
    | refine wpList_boxR rfl 78 (.tmp 0) rfl (fdC n P).toArray rfl ?_
    | refine wpList_boxR rfl 76 (.tmp 1) rfl (dgC A).toArray rfl ?_
    | refine wpList_boxR rfl 76 (.tmp 2) rfl (dgC B).toArray rfl ?_)
  refine wp_gen (fun W => Bks w W (ML n P A B (List.replicate 26 0))) (five0 n P A B _ _ rfl rfl) ?_
  intro W2 hW2
  have H2 : Hid (Bks w W2 (ML n P A B (List.replicate 26 0))) := hW2
  clear hW2
  go_wp2
  go_loopw [8] (fun iv wr => ∃ (i : Nat) (U : List Int), iv = .int .i64 i ∧ i ≤ n ∧ Hid (U32s U ∧ U.length = i + n ∧ val U = val (A.take i) * val (B.take n)) ∧ Hid (Bks w wr (ML n P A B (U ++ List.replicate (26 - (i + n)) 0)))) (fun iv _ => n - (intOf iv).toNat)
  case atStart =>
    refine ⟨0, List.replicate n 0, rfl, by omega, ⟨u32s_zeros _, by simp, by rw [val_zeros]; simp [val]⟩, ?_⟩
    have e : List.replicate n (0 : Int) ++ List.replicate (26 - (0 + n)) 0 = List.replicate 26 0 := by rw [List.replicate_append_replicate]; congr 1; omega
    show Bks _ _ _
    rw [e]; exact H2.out
  case round =>
    clear H2
    obtain ⟨i, U, rfl, hi, HU, HM⟩ := hrel
    have hf0 := ML.f HM.out
    by_cases hin : i < n
    · obtain ⟨T0, hT0⟩ : ∃ T0, U ++ List.replicate (26 - (i + n)) 0 = T0 := ⟨_, rfl⟩
      rw [hT0] at HM
      have HT : Hid (U ++ List.replicate (26 - (i + n)) 0 = T0) := hT0
      have HT2 : Hid (T0.length = 26 ∧ U32s T0) := ⟨by rw [← hT0]; simp [HU.out.2.1]; omega, by rw [← hT0]; exact HU.out.1.append (u32s_zeros _)⟩
      obtain ⟨ai, hai⟩ : ∃ x, A.getD i 0 = x := ⟨_, rfl⟩
      have HAi : Hid (A.getD i 0 = ai ∧ U32 ai) := ⟨hai, hai ▸ HA.out.2.1.1.at _⟩
      clear hT0 hai
      go_wp2
      go_loopw [9, 10] (fun c kv wr => ∃ (Z : List Int) (cy : Int), kv = .int .i64 Z.length ∧ c = .int .u64 cy ∧ Z.length ≤ n ∧ 0 ≤ cy ∧ cy < 4294967296 ∧ Hid (U32s Z ∧ val Z + 4294967296 ^ Z.length * cy = val ((T0.drop i).take Z.length) + ai * val (B.take Z.length)) ∧ Hid (Bks w wr (ML n P A B (T0.take i ++ Z ++ T0.drop (i + Z.length))))) (fun _ kv _ => n - (intOf kv).toNat)
      case atStart =>
        refine ⟨[], 0, rfl, rfl, by simp, by omega, by omega, ⟨U32s.nil, by simp [val]⟩, ?_⟩
        show Bks _ _ _
        simpa using HM.out
      case round =>
        clear HM hf0
        obtain ⟨Z, cy, rfl, rfl, hZl, hc0, hc1, HZ, HW⟩ := hrel
        have hf0 := ML.f HW.out
        by_cases hlt : Z.length < n
        · obtain ⟨k, hk⟩ : ∃ k, Z.length = k := ⟨_, rfl⟩
          obtain ⟨m, hm⟩ : ∃ m, i + Z.length = m := ⟨_, rfl⟩
          have lM : (T0.take i ++ Z ++ T0.drop (i + Z.length)).length = 26 := by rw [Nt.mid_len _ _ _ (by have := HT2.out.1; omega), HT2.out.1]
          have c1 := ML.t HW.out (i := i + Z.length) (by omega)
          have c2 := ML.a HW.out (i := i) (by have := HA.out.2.1.2; omega)
          have c3 := ML.b HW.out (i := Z.length) (by have := HA.out.2.2.1.2; omega)
          have g1 := ML.fz HW.out (i + Z.length)
          rw [Nt.mid_get] at c1
          rw [HAi.out.1] at c2
          obtain ⟨t, ht⟩ : ∃ x, T0.getD (i + Z.length) 0 = x := ⟨_, rfl⟩
          obtain ⟨b, hb⟩ : ∃ x, B.getD Z.length 0 = x := ⟨_, rfl⟩
          have ut : U32 t := ht ▸ HT2.out.2.at _
          have ub : U32 b := hb ▸ HA.out.2.2.1.1.at _
          obtain ⟨q0, q1⟩ := u32_prod HAi.out.2 ub
          obtain ⟨ut1, ut2⟩ := ut
          rw [ht] at c1; rw [hb] at c3
          have HX : Hid (T0.getD (i + Z.length) 0 = t ∧ B.getD Z.length 0 = b ∧ Z.length = k ∧ i + Z.length = m) := ⟨ht, hb, hk, hm⟩
          rw [hm] at c1 g1
          have hmi : (i : Int) + k = m := by omega
          have hm26 : m < 26 := by omega
          have hk13 : k < 13 := by omega
          have hi13 : i < 13 := by omega
          rw [hk] at c3 hlt
          rw [hk]
          obtain ⟨pr, hpr⟩ : ∃ x, ai * b = x := ⟨_, rfl⟩
          rw [hpr] at q0 q1
          have HP : Hid (ai * b = pr) := hpr
          have hand := Nt.and32 (t + pr + cy) (by omega) (by omega)
          clear ht hb hk hm lM ub hZl
          go_wp2
          go_quiet (fail)
          go_wp2
          go_roundw
          case rel =>
            obtain ⟨ht, hb, hk, hm⟩ := HX.out
            have hT26 := HT2.out.1
            have hB13 := HA.out.2.2.1.2
            refine ⟨Z ++ [(t + pr + cy) % 4294967296], (t + pr + cy) / 4294967296, by simp [hk], rfl, by simp; omega, by omega, by omega, ⟨HZ.out.1.append (U32s.cons ⟨by omega, by omega⟩ U32s.nil), ?_⟩, ?_⟩
            · have hgd : (T0.drop i).getD Z.length 0 = t := by rw [List.getD_eq_getElem?_getD, List.getElem?_drop, ← List.getD_eq_getElem?_getD]; exact ht
              rw [Nt.val_snoc, List.length_append, List.length_singleton, Nt.val_take_succ (T0.drop i) _ (by simp; omega), Nt.val_take_succ B _ (by omega), hgd, hb, Int.pow_succ]
              exact mul_step _ cy ai b t _ _ _ _ (by rw [HP.out]) HZ.out.2
            · have h := ML.put (HW.out.drewN nq) m ((t + pr + cy) % 4294967296)
              rw [← hm, Nt.mid_set _ _ _ _ (by omega), hm] at h
              exact h
          case measure => simp [intOf]; omega
        · have hk : Z.length = n := by omega
          have lM : (T0.take i ++ Z ++ T0.drop (i + Z.length)).length = 26 := by rw [Nt.mid_len _ _ _ (by have := HT2.out.1; omega), HT2.out.1]
          obtain ⟨m, hm⟩ : ∃ m, i + n = m := ⟨_, rfl⟩
          have c1 := ML.t HW.out (i := m) (by omega)
          have g1 := ML.fz HW.out m
          obtain ⟨t, ht⟩ : ∃ x, (T0.take i ++ Z ++ T0.drop (i + Z.length)).getD m 0 = x := ⟨_, rfl⟩
          rw [ht] at c1
          have HX : Hid (Z.length = n ∧ i + n = m) := ⟨hk, hm⟩
          have hmi : (i : Int) + n = m := by omega
          have hm26 : m < 26 := by omega
          rw [hk]
          clear ht lM hlt hZl hk hm
          go_wp2
          go_roundw
          case rel =>
            obtain ⟨hk, hm⟩ := HX.out
            have hA13 := HA.out.2.1.2
            have hz := HZ.out.2
            obtain ⟨hU1, hU2, hU3⟩ := HU.out
            rw [hk, ← HT.out, List.drop_append_of_le_length (by omega), List.take_append_of_le_length (by simp; omega)] at hz
            refine ⟨i + 1, U.take i ++ Z ++ [cy], by go_num, by omega, ⟨((hU1.take i).append HZ.out.1).append (U32s.cons ⟨by omega, by omega⟩ U32s.nil), by simp; omega, ?_⟩, ?_⟩
            · rw [Nt.val_take_succ A _ (by omega), HAi.out.1]
              exact row_end U Z i n cy _ ai _ hU2 hk hz hU3
            · have h := ML.put HW.out m cy
              rw [← HT.out, ← hm, pad_row U Z i n cy hU2 hk (by omega)] at h
              rw [← hm]
              exact h
          case measure => simp [intOf]; omega
    · have hi2 : n = i := by omega
      subst hi2
      have HT : Hid (U32s U ∧ U.length = n + n ∧ val U = val A * val B) := by
        obtain ⟨h1, h2, h3⟩ := HU.out
        obtain ⟨dP, dA, dB, hP, hA, hB⟩ := HA.out
        refine ⟨h1, h2, ?_⟩
        rw [h3, (val_take_of_lt dA.1 (by rw [dA.2]; omega) (by omega)).1, (val_take_of_lt dB.1 (by rw [dB.2]; omega) (by omega)).1]
      have HP0 : Hid (0 < val P) := by
        have h1 := val_nonneg HA.out.2.1.1
        have h2 := HA.out.2.2.2.2.1
        show 0 < val P
        omega
      rename World => wo
      clear HU hin hi
      go_upto_region 14 with (fail)
      clear hf0
      refine wp_gen (fun W => Below wo.heap.size wo W ∧ Arr .u64 76 W wo.heap.size (List.replicate 13 0)) ⟨al1 _, (Blk.new 76 wo z13).arr (xs := List.replicate 13 0)⟩ ?_
      rintro W3 ⟨hb3, hA3⟩
      have hf0 := ML.f (HM.out.below hb3)
      have H3 : Hid (Below wo.heap.size wo W3 ∧ Arr .u64 76 W3 wo.heap.size (List.replicate 13 0)) := ⟨hb3, hA3⟩
      clear hb3 hA3
      go_wp2
      go_loopw [13] (fun iv W => ∃ (j : Nat) (R : List Int), iv = .int .i64 ((j : Int) - 1) ∧ j ≤ n + n ∧ Hid (Dg R ∧ val R = val (U.drop j) % val P) ∧ Hid (Below wo.heap.size wo W ∧ Arr .u64 76 W wo.heap.size R)) (fun iv _ => ((intOf iv) + 1).toNat)
      case atStart =>
        refine ⟨n + n, List.replicate 13 0, by go_num, Nat.le_refl _, ⟨⟨u32s_zeros _, by simp⟩, ?_⟩, H3.out⟩
        rw [val_zeros, List.drop_eq_nil_of_le (by have := HT.out.2.1; omega)]; simp [val]
      case round =>
        clear H3 hf0
        obtain ⟨j, R, rfl, hj, HR, HW⟩ := hrel
        cases j with
        | zero =>
          rw [show ((0 : Nat) : Int) - 1 = -1 from rfl]
          have HV : Hid (val R = val A * val B % val P) := by
            show _ = _
            rw [HR.out.2, List.drop_zero, HT.out.2.2]
          have HB : Hid (wr.rangeAt wo.heap.size 0 (dgC R)) := HW.out.2.blk.whole
          go_wp2_with (first
            | (refine wpList_load_mid rfl _ _ rfl wo.heap.size 0 rfl (dgC R) _ HB.out Try.underlying76 rfl (dgC_size HR.out.1.2) ?_)
            | (refine wpList_store_mid rfl _ _ _ rfl (w.heap.size + 1 + 1 + 1) 0 (dgC R).toArray rfl rfl ((HM.out.below HW.out.1).there 3 _ z13 rfl _ (by simp [dgC_len, HR.out.1.2, z13])) (dgC_size2 HR.out.1.2) (dgC_one R) ?_))
          have hN := (HM.out.below HW.out.1).store 3 _ z13 (dgC R) rfl (by simp [dgC_len, HR.out.1.2, z13])
          exact bodyPost_ret (v := .agg (dgC R).toArray) (results_blk (b := w.heap.size + 1 + 1 + 1) (cs := dgC R) rfl rfl (hN.2 3 _ _ rfl) Try.underlying76 rfl (dgC_size HR.out.1.2)) rfl ⟨R, rfl, HR.out.1, HV.out, hN.1⟩
        | succ m =>
          have hi1 : ((m + 1 : Nat) : Int) - 1 = m := by omega
          rw [hi1]
          clear hi1
          have hf0 := ML.f (HM.out.below HW.out.1)
          go_wp2
          go_loopw [14] (fun kv W => ∃ k : Nat, kv = .int .i64 k ∧ k ≤ n ∧ Hid (Below wo.heap.size wo W ∧ Arr .u64 76 W wo.heap.size (shf R n k))) (fun kv _ => (intOf kv).toNat)
          case atStart => exact ⟨n, rfl, Nat.le_refl _, HW.out.1, by rw [shf_start]; exact HW.out.2⟩
          case round =>
            clear hf0 HW
            obtain ⟨k, rfl, hk, HW⟩ := hrel
            have hl := shf_len R n k hk (by rw [HR.out.1.2]; omega)
            rw [HR.out.1.2] at hl
            cases k with
            | zero =>
              obtain ⟨t, ht⟩ : ∃ t, U.getD m 0 = t := ⟨_, rfl⟩
              have c1 := ML.t (HM.out.below HW.out.1) (i := m) (by have := HT.out.2.1; simp; omega)
              have hg : (U ++ List.replicate (26 - (n + n)) 0).getD m 0 = t := by
                rw [List.getD_eq_getElem?_getD, List.getElem?_append_left (by have := HT.out.2.1; omega), ← List.getD_eq_getElem?_getD, ht]
              rw [hg] at c1
              obtain ⟨y, hy⟩ : ∃ y, (shf R n 0).getD 0 0 = y := ⟨_, rfl⟩
              have c2 := HW.out.2.cell 0 (by omega)
              have g2 := HW.out.2.frozen 0
              rw [hy] at c2
              have hm26 : m < 26 := by omega
              have HE : Hid (U.getD m 0 = t) := ht
              clear ht hg hy
              go_upto_region 22 with (fail)
              obtain ⟨R2, hR2⟩ : ∃ R2, t :: (R.take n ++ R.drop (n + 1)) = R2 := ⟨_, rfl⟩
              have HR2 : Hid (Dg R2 ∧ val R2 = t + 4294967296 * val R) := by
                have hR13 := HR.out.1.2
                refine ⟨⟨?_, ?_⟩, ?_⟩
                · rw [← hR2]; exact U32s.cons (HE.out ▸ HT.out.1.at _) ((HR.out.1.1.take n).append (HR.out.1.1.drop _))
                · rw [← hR2]; simp; omega
                · rw [← hR2]
                  refine shf_val R n t HR.out.1.1 (by omega) ?_
                  rw [HR.out.2]
                  have h1 := Int.emod_lt_of_pos (val (U.drop (m + 1))) HP0.out
                  have h2 := HA.out.2.2.2.1
                  omega
              refine wp_gen (fun W => Below wo.heap.size wo W ∧ Arr .u64 76 W wo.heap.size R2) ⟨Below.setCell (p := ⟨wo.heap.size, 0, none⟩) HW.out.1 (Nat.le_refl _) _, by have h := HW.out.2.set 0 t; rw [shf_end _ _ _ (by rw [HR.out.1.2]; omega), hR2] at h; exact h⟩ ?_
              rintro W5 ⟨hb5, hA5⟩
              clear hR2 c1 c2 g2 hl HW
              obtain ⟨q, hq⟩ : ∃ q, R2.getD n 0 = q := ⟨_, rfl⟩
              have hu70 := Try.underlying76
              have hsR := dgC_size HR2.out.1.2
              have hsP := dgC_size HA.out.1.2
              have hlR : (dgC R2).length = 13 := by rw [dgC_len]; exact HR2.out.1.2
              have hlP : (dgC P).length = 13 := by rw [dgC_len]; exact HA.out.1.2
              have HS0 : Hid (Below wo.heap.size wo W5.drew ∧ W5.drew.rangeAt wo.heap.size 0 (dgC R2) ∧ W5.drew.rangeAt w.heap.size 1 (dgC P) ∧ W5.drew.cell? ⟨w.heap.size, 0, none⟩ = some (.int .i64 n) ∧ W5.drew.cell? ⟨wo.heap.size, n, none⟩ = some (.int .u64 q)) := by
                have hb5d : Below wo.heap.size wo W5.drew := hb5.drew
                have hA5d : Arr .u64 76 W5.drew wo.heap.size R2 := hA5
                refine ⟨hb5d, hA5d.blk.whole, (HM.out.below hb5d).pr n P rfl, ML.f (HM.out.below hb5d), ?_⟩
                rw [hA5d.cell n (by rw [HR2.out.1.2]; omega), hq]
              have HK : Hid (Arr .u64 76 W5.drew wo.heap.size R2 ∧ R2.getD n 0 = q) := ⟨hA5, hq⟩
              have H5b : Hid (Below wo.heap.size wo W5) := hb5
              have hn13 : n < 13 := by omega
              clear hb5 hA5 hq
              have HQ : Hid (q * val P ≤ val R2 ∧ U32 q) := by
                have h1 := top_le HR2.out.1.1 (n := n) (by rw [HR2.out.1.2]; omega)
                rw [HK.out.2] at h1
                have uq : U32 q := HK.out.2 ▸ HR2.out.1.1.at n
                have h2 : q * val P ≤ q * 4294967296 ^ n := Int.mul_le_mul_of_nonneg_left (Int.le_of_lt HA.out.2.2.2.1) uq.1
                rw [Int.mul_comm q (4294967296 ^ n)] at h2
                exact ⟨Int.le_trans h2 h1, uq⟩
              have uq1 := HQ.out.2.1
              have uq2 := HQ.out.2.2
              have hcn : W5.cell? ⟨w.heap.size, 0, none⟩ = some (.int .i64 n) := HS0.out.2.2.2.1
              have hcq : W5.cell? ⟨wo.heap.size, n, none⟩ = some (.int .u64 q) := HS0.out.2.2.2.2
              refine wp_region_qsd 7 (by kernel_rfl) (by kernel_rfl) ?_
              simp only [List.take_succ_cons, List.take_zero, List.drop_succ_cons, List.drop_zero]
              refine wpQuiet_row rfl 76 (.tmp 12) rfl wo.heap.size 0 rfl (dgC R2) _ (by rintro _ ⟨z, rfl⟩; exact HS0.out.2.1) hu70 rfl hsR ?_
              simp only [Act.put, List.setIfInBounds_toArray, List.set_cons_zero, List.set_cons_succ]
              go_big_quiet_step (fail)
              refine wpQuiet_row rfl 76 (.tmp 81) rfl w.heap.size 1 rfl (dgC P) _ (by rintro _ ⟨z, rfl⟩; exact HS0.out.2.2.1) hu70 rfl hsP ?_
              simp only [Act.put, List.setIfInBounds_toArray, List.set_cons_zero, List.set_cons_succ]
              repeat (go_big_quiet_step (fail))
              refine wpQuiet_nil ?_
              rintro _ ⟨nq, rfl⟩
              clear hcn hcq hsR hsP hlR hlP hu70
              go_wp2_with fail
              refine (minus_any R2 P HR2.out.1.1 HA.out.1.1 HR2.out.1.2 HA.out.1.2 q HQ.out.2 HQ.out.1).mono ?_
              rintro e w6 ⟨Z, rfl, uZ, lZ, vZ, hb6⟩
              have HZ : Hid (Dg Z ∧ val Z % val P = val R2 % val P) := ⟨⟨uZ, lZ⟩, by rw [vZ, Int.sub_emod, Int.mul_emod_left, Int.sub_zero, Int.emod_emod]⟩
              have H6 : Hid (Below wo.heap.size wo w6 ∧ Arr .u64 76 w6 wo.heap.size R2) := by
                have h1 : Below wo.heap.size wo (W5.drewN nq) := H5b.out.trans ⟨rfl, rfl, rfl, Nat.le_refl _, fun _ _ => rfl⟩
                have h2 : Arr .u64 76 (W5.drewN nq) wo.heap.size R2 := HK.out.1
                exact ⟨below_via h1 hb6 (Nat.le_refl _), below_arr hb6 h2.lt h2⟩
              clear uZ lZ vZ hb6 HS0 HK HQ uq1 uq2
              go_wp2_with (refine wpList_store_mid rfl _ _ _ rfl wo.heap.size 0 (dgC Z).toArray rfl rfl (H6.out.2.blk.there 0 _ (by simp [dgC_len, HR2.out.1.2, HZ.out.1.2])) (dgC_size2 HZ.out.1.2) (dgC_one Z) ?_)
              simp only [Act.put]
              go_loopw [] (fun W => ∃ Z : List Int, Hid (Dg Z ∧ val Z % val P = val R2 % val P) ∧ Hid (Below wo.heap.size wo W ∧ Arr .u64 76 W wo.heap.size Z)) (fun W => rdv W wo.heap.size)
              case atStart => exact ⟨Z, HZ.out, (Upd.setCells (b := wo.heap.size) (dgC Z) 0 w6).below H6.out.1 H6.out.1.size (Nat.le_refl _), (H6.out.2.blk.fill (dgC Z) (by simp [dgC_len, HR2.out.1.2, HZ.out.1.2])).arr⟩
              case round =>
                clear HZ H6
                obtain ⟨Z, HZ, HW⟩ := hrel
                go_wp2_with (first
                  | (refine wpList_load_mid rfl 76 (.tmp 12) rfl (wo.heap.size) 0 rfl (dgC Z) _ HW.out.2.blk.whole Try.underlying76 rfl (dgC_size HZ.out.1.2) ?_)
                  | (refine wpList_load_mid rfl 76 (.tmp 89) rfl (w.heap.size) 1 rfl (dgC P) _ ((HM.out.below HW.out.1).pr n P rfl) Try.underlying76 rfl (dgC_size HA.out.1.2) ?_))
                refine (less_any Z P HZ.out.1.1 HA.out.1.1 HZ.out.1.2 HA.out.1.2).mono ?_
                rintro e w7 ⟨rfl, hb7⟩
                have H7 : Hid (Below wo.heap.size wo w7 ∧ Arr .u64 76 w7 wo.heap.size Z) := ⟨below_via HW.out.1 hb7 (Nat.le_refl _), below_arr hb7 HW.out.2.lt HW.out.2⟩
                have HV : Hid (rdv wr wo.heap.size = (val Z).toNat) := rdv_arr HW.out.2 HZ.out.1.2
                clear hb7 HW
                by_cases hlt : val Z < val P
                · have dl : decide (val Z < val P) = true := by simpa using hlt
                  rw [dl]
                  have HF : Hid (val Z = val (U.drop m) % val P) := by
                    show _ = _
                    rw [val_drop_at U m (by have := HT.out.2.1; omega), HE.out, ← red_step, ← HR.out.2, ← HR2.out.2, ← HZ.out.2, Int.emod_eq_of_lt (val_nonneg HZ.out.1.1) hlt]
                  clear hlt dl HV
                  go_wp2
                  go_roundw
                  case rel => exact ⟨m, Z, by go_num, by omega, ⟨HZ.out.1, HF.out⟩, H7.out⟩
                  case measure => simp [intOf]; try omega
                · have dl : decide (val Z < val P) = false := by simpa using hlt
                  rw [dl]
                  have HQ : Hid (1 * val P ≤ val Z) := by show _ ≤ _; omega
                  clear hlt dl
                  go_wp2_with (first
                    | (refine wpList_load_mid rfl 76 (.tmp 12) rfl (wo.heap.size) 0 rfl (dgC Z) _ H7.out.2.blk.whole Try.underlying76 rfl (dgC_size HZ.out.1.2) ?_)
                    | (refine wpList_load_mid rfl 76 (.tmp 94) rfl (w.heap.size) 1 rfl (dgC P) _ ((HM.out.below H7.out.1).pr n P rfl) Try.underlying76 rfl (dgC_size HA.out.1.2) ?_))
                  refine (minus_any Z P HZ.out.1.1 HA.out.1.1 HZ.out.1.2 HA.out.1.2 1 ⟨by decide, by decide⟩ HQ.out).mono ?_
                  rintro e w8 ⟨Y, rfl, uY, lY, vY, hb8⟩
                  have HY : Hid (Dg Y ∧ val Y = val Z - 1 * val P) := ⟨⟨uY, lY⟩, vY⟩
                  have H8 : Hid (Below wo.heap.size wo w8 ∧ Arr .u64 76 w8 wo.heap.size Z) := ⟨below_via H7.out.1 hb8 (Nat.le_refl _), below_arr hb8 H7.out.2.lt H7.out.2⟩
                  have hAY : Arr .u64 76 (w8.setCells wo.heap.size 0 (dgC Y)) wo.heap.size Y := (H8.out.2.blk.fill (dgC Y) (by simp [dgC_len, HY.out.1.2, HZ.out.1.2])).arr
                  have HL : Hid (Arr .u64 76 (w8.setCells wo.heap.size 0 (dgC Y)) wo.heap.size Y ∧ rdv (w8.setCells wo.heap.size 0 (dgC Y)) wo.heap.size < rdv wr wo.heap.size) := by
                    refine ⟨hAY, ?_⟩
                    rw [HV.out, rdv_arr hAY HY.out.1.2, HY.out.2]
                    have h1 := HQ.out
                    have h2 := HP0.out
                    omega
                  clear uY lY vY hb8 hAY H7
                  go_wp2_with (refine wpList_store_mid rfl _ _ _ rfl wo.heap.size 0 (dgC Y).toArray rfl rfl (H8.out.2.blk.there 0 _ (by simp [dgC_len, HY.out.1.2, HZ.out.1.2])) (dgC_size2 HY.out.1.2) (dgC_one Y) ?_)
                  simp only [Act.put]
                  go_roundw
                  case rel => exact ⟨Y, ⟨HY.out.1, by rw [HY.out.2, Int.one_mul, Int.sub_emod_right, HZ.out.2]⟩, (Upd.setCells (b := wo.heap.size) (dgC Y) 0 w8).below H8.out.1 H8.out.1.size (Nat.le_refl _), HL.out.1⟩
                  case measure => exact HL.out.2
            | succ k =>
              obtain ⟨x, hx⟩ : ∃ x, R.getD k 0 = x := ⟨_, rfl⟩
              obtain ⟨y, hy⟩ : ∃ y, (shf R n (k + 1)).getD (k + 1) 0 = y := ⟨_, rfl⟩
              have c1 := HW.out.2.cell k (by omega)
              have c2 := HW.out.2.cell (k + 1) (by omega)
              have g2 := HW.out.2.frozen (k + 1)
              rw [shf_get _ _ _ (by omega) (by rw [HR.out.1.2]; omega), hx] at c1
              rw [hy] at c2
              have hki : ((k + 1 : Nat) : Int) - 1 = k := by omega
              have hk13 : k + 1 < 13 := by omega
              have HE : Hid (R.getD k 0 = x) := hx
              clear hx hy hl
              go_wp2
              go_roundw
              case rel =>
                refine ⟨k, by go_num, by omega, Below.setCell (p := ⟨wo.heap.size, k + 1, none⟩) HW.out.1 (Nat.le_refl _) _, ?_⟩
                have h := HW.out.2.set (k + 1) x
                rw [← HE.out, shf_set _ _ _ (by omega) (by rw [HR.out.1.2]; omega)] at h
                rw [← HE.out]
                exact h
              case measure => simp [intOf]
end Go.Proofs.Yteagdgbcfbkfbaa
/-
  The reference's curves: Prime, Order, Size. (wip/mku22.py)
-/
namespace Go.Proofs.Yteagdgbcfbkfbaa
open Go.RowKit
set_option maxRecDepth 20000
set_option maxHeartbeats 2000000 in
theorem RPrime_any {w : World} (c : Int) : Calls Try.prog 48 #[.int .i64 c] w fun e w' => ∃ r, e = .returned r ∧ Nb w' r (crvN (·.p) (crv c)) ∧ Below w.heap.size w w' := by
  by_cases h1 : c = 1
  · subst h1
    have HL : Hid (lim (crvN (·.p) (crv 1)) = [4294967295, 4294967295, 4294967295, 0, 0, 0, 1, 4294967295]) := lim256p
    go_enter Try.func48, Try.ntmps48
    go_wp2
    go_ret
    exact ⟨_, rfl, nb_new [4294967295, 4294967295, 4294967295, 0, 0, 0, 1, 4294967295] _ HL.out, al1 _⟩
  by_cases h2 : c = 2
  · subst h2
    have HL : Hid (lim (crvN (·.p) (crv 2)) = [4294967295, 0, 0, 4294967295, 4294967294, 4294967295, 4294967295, 4294967295, 4294967295, 4294967295, 4294967295, 4294967295]) := lim384p
    go_enter Try.func48, Try.ntmps48
    go_wp2
    go_ret
    exact ⟨_, rfl, nb_new [4294967295, 0, 0, 4294967295, 4294967294, 4294967295, 4294967295, 4294967295, 4294967295, 4294967295, 4294967295, 4294967295] _ HL.out, al1 _⟩
  · have HN : Hid (crv c = none) := by show _ = _; unfold crv; rw [if_neg h1, if_neg h2]
    go_enter Try.func48, Try.ntmps48
    go_wp2
    go_ret
    exact ⟨_, rfl, by rw [HN.out]; exact nil_nb _, Below.refl _ _⟩
theorem crv_sz (c : Int) : 4 * (lim (crvN (·.p) (crv c))).length = crvN (·.sz) (crv c) ∧ (lim (crvN (·.p) (crv c))).length ≤ 12 := by
  by_cases h1 : c = 1
  · subst h1
    have e : lim (crvN (·.p) (crv 1)) = [4294967295, 4294967295, 4294967295, 0, 0, 0, 1, 4294967295] := lim256p
    rw [e]; exact ⟨rfl, by decide⟩
  by_cases h2 : c = 2
  · subst h2
    have e : lim (crvN (·.p) (crv 2)) = [4294967295, 0, 0, 4294967295, 4294967294, 4294967295, 4294967295, 4294967295, 4294967295, 4294967295, 4294967295, 4294967295] := lim384p
    rw [e]; exact ⟨rfl, by decide⟩
  · have hn : crv c = none := by unfold crv; rw [if_neg h1, if_neg h2]
    rw [hn]
    have e : lim (crvN (·.p) none) = [] := by unfold crvN; unfold lim; rfl
    rw [e]; exact ⟨rfl, by decide⟩
set_option maxHeartbeats 2000000 in
theorem RSize_any {w : World} (c : Int) : Calls Try.prog 58 #[.int .i64 c] w fun e w' => e = .returned (.int .i64 (crvN (·.sz) (crv c) : Nat)) ∧ Below w.heap.size w w' := by
  go_enter Try.func58, Try.ntmps58
  go_wp2_with fail
  refine (RPrime_any c).mono ?_
  rintro e w3 ⟨r, rfl, hr, hb⟩
  obtain ⟨a, k, rfl⟩ := hr.form
  obtain ⟨l, hl⟩ : ∃ l, (lim (crvN (·.p) (crv c))).length = l := ⟨_, rfl⟩
  have hz := crv_sz c
  rw [hl] at hz ⊢
  have H : Hid (Below w.heap.size w w3 ∧ 4 * l = crvN (·.sz) (crv c)) := ⟨hb, hz.1⟩
  have hl12 : l ≤ 12 := hz.2
  clear hb hr hl hz
  go_wp2
  go_ret
  refine ⟨?_, H.out.1⟩
  rw [← H.out.2]
  exact congrArg (fun z => Ending.returned (Value.int .i64 z)) (by omega)
end Go.Proofs.Yteagdgbcfbkfbaa
/-
  The walk of Bytes.
-/
namespace Go.Proofs.Yteagdgbcfbkfbaa.Nt
open Go.RowKit

/-- n bytes of a number, the highest first. -/
def beb (v : Int) (n : Nat) : List Int := (List.range n).map fun k => v / 256 ^ (n - 1 - k) % 256
theorem beb_len (v : Int) (n : Nat) : (beb v n).length = n := by simp [beb]
theorem beb_get (v : Int) (n k : Nat) (h : k < n) : (beb v n).getD k 0 = v / 256 ^ (n - 1 - k) % 256 := by simp [beb, h]
theorem getD_ext {xs ys : List Int} (hl : xs.length = ys.length) (h : ∀ k, k < xs.length → xs.getD k 0 = ys.getD k 0) : xs = ys := by
  apply List.ext_getElem hl
  intro k h1 h2
  have := h k h1
  simpa [h1, h2] using this
theorem beb_u8 (v : Int) (n : Nat) : U8s (beb v n) := by
  intro x hx
  simp only [beb, List.mem_map] at hx
  obtain ⟨k, _, rfl⟩ := hx
  exact ⟨by omega, by omega⟩
theorem byte_of {X : List Int} (hu : U32s X) (i : Nat) : X.getD (i / 4) 0 / 2 ^ (i % 4 * 8) % 256 = val X / 256 ^ i % 256 := by
  have h := getD_div X (i / 4) hu
  obtain ⟨n, hn⟩ := Int.eq_ofNat_of_zero_le (val_nonneg hu)
  obtain ⟨z, hz⟩ := Int.eq_ofNat_of_zero_le (hu.at (i / 4)).1
  rw [hn, hz] at h
  simp only [Int.toNat_natCast] at h
  rw [hn, hz, pow256, pow32, ← h]
  have e0 : ((2 : Int) ^ (i % 4 * 8)) = ((2 ^ (i % 4 * 8) : Nat) : Int) := by simp
  rw [e0]
  have key : n / 2 ^ (32 * (i / 4)) % 4294967296 / 2 ^ (i % 4 * 8) % 256 = n / (2 ^ (32 * (i / 4)) * 2 ^ (i % 4 * 8)) % 256 := by
    obtain ⟨s, hs⟩ : ∃ s, i % 4 * 8 = s := ⟨_, rfl⟩
    rw [hs]
    have hs24 : s ≤ 24 := by omega
    have e : (4294967296 : Nat) = 2 ^ s * 2 ^ (32 - s) := by rw [← Nat.pow_add, show s + (32 - s) = 32 by omega]
    rw [e, Nat.mod_mul_right_div_self, Nat.div_div_eq_div_mul]
    have e3 : 2 ^ (32 - s) = 256 * 2 ^ (24 - s) := by rw [show (256 : Nat) = 2 ^ 8 from rfl, ← Nat.pow_add]; congr 1; omega
    rw [e3, Nat.mod_mul_right_mod]
  have k2 := congrArg (fun t : Nat => (t : Int)) key
  simp only [Int.natCast_emod, Int.natCast_ediv, Int.natCast_mul] at k2 ⊢
  exact k2
theorem high_zero {X : List Int} (hu : U32s X) {j : Nat} (h : 4 * sig X ≤ j) : val X / 256 ^ j % 256 = 0 := by
  have h1 : val X < 256 ^ j := by
    have h2 := val_lt (hu.take (sig X))
    rw [val_take_sig, List.length_take, Nat.min_eq_left (sig_le X)] at h2
    have h3 : (4294967296 : Int) ^ sig X = 256 ^ (4 * sig X) := by rw [Int.pow_mul]; rfl
    obtain ⟨d, rfl⟩ := Nat.le.dest h
    rw [Int.pow_add, ← h3]
    have h4 : (0 : Int) < 256 ^ d := Int.pow_pos (by decide)
    calc val X < 4294967296 ^ sig X * 1 := by omega
      _ ≤ 4294967296 ^ sig X * 256 ^ d := Int.mul_le_mul_of_nonneg_left (by omega) (Int.le_of_lt (pow_pos32 _))
  rw [Int.ediv_eq_zero_of_lt (val_nonneg hu) h1]; rfl

def bytS (X : List Int) (n : Int) : List Int × Int := if 512 < X.length then ([], 3) else if n < 0 ∨ 2048 < n then ([], 1) else if 8 * n < bitLen (val X).toNat then ([], 3) else (beb (val X) n.toNat, 0)
/-- Bytes and an error, as two results. -/
def Own8 (B : Nat) (w : World) (v : Value) (bs : List Int) : Prop := (v = .slice none 0 0 ∧ bs = []) ∨ ∃ b, v = .slice (some ⟨b, 0, none⟩) bs.length bs.length ∧ B ≤ b ∧ Arr .u8 5 w b bs
def Two8 (B : Nat) (w : World) (e : Ending) (s : List Int × Int) : Prop := ∃ r, e = .returned (.tuple #[r, .int .i64 s.2]) ∧ Own8 B w r s.1 ∧ (s.2 = 0 → r ≠ .slice none 0 0)
theorem Two8.nil' {B : Nat} {w : World} {n : Int} {s : List Int × Int} (hs : s = ([], n)) (hn : n ≠ 0) : Two8 B w (.returned (.tuple #[.slice none 0 0, .int .i64 n])) s := by
  subst hs; exact ⟨_, rfl, .inl ⟨rfl, rfl⟩, fun h => absurd h hn⟩
theorem Two8.mk' {B : Nat} {w : World} {r : Value} {n : Int} {bs : List Int} {s : List Int × Int} (h : Own8 B w r bs) (hs : s = (bs, n)) (hr : r ≠ .slice none 0 0) : Two8 B w (.returned (.tuple #[r, .int .i64 n])) s := by
  subst hs; exact ⟨r, rfl, h, fun _ => hr⟩
theorem Own8.sl {B : Nat} {w : World} {v : Value} {bs : List Int} (h : Own8 B w v bs) : Sl .u8 w v bs := by
  rcases h with ⟨rfl, rfl⟩ | ⟨b, rfl, _, hA⟩
  · exact ⟨none, 0, rfl, Nat.le_refl _, .inl rfl⟩
  · exact ⟨_, _, rfl, Nat.le_refl _, .inr ⟨b, 0, rfl, hA.lt, by have := hA.rd 0 bs.length (by omega); rw [List.drop_zero, List.take_length] at this; exact this⟩⟩

set_option maxHeartbeats 2000000 in
theorem Bytes_any (X : List Int) (n : Int) (v : Value) (w : World) (hX : Sl .u32 w v X) (uX : U32s X) (hn0 : -9223372036854775808 ≤ n) (hn1 : n ≤ 9223372036854775807) :
    Calls Try.prog 61 #[v, .int .i64 n] w fun e w' => Two8 w.heap.size w' e (bytS X n) ∧ Below w.heap.size w w' := by
  obtain ⟨a, c, rfl, hc, hXr⟩ := id hX
  by_cases h1 : 512 < X.length
  · have HL : Hid (bytS X n = ([], 3)) := by unfold bytS; rw [if_pos h1]; rfl
    go_enter Try.func61, Try.ntmps61
    go_wp2
    go_ret2
    exact ⟨Two8.nil' HL.out (by decide), Below.refl _ _⟩
  by_cases h2 : n < 0
  · have HL : Hid (bytS X n = ([], 1)) := by unfold bytS; rw [if_neg h1, if_pos (.inl h2)]; rfl
    go_enter Try.func61, Try.ntmps61
    go_wp2
    go_ret2
    exact ⟨Two8.nil' HL.out (by decide), Below.refl _ _⟩
  by_cases h3 : 2048 < n
  · have HL : Hid (bytS X n = ([], 1)) := by unfold bytS; rw [if_neg h1, if_pos (.inr h3)]; rfl
    go_enter Try.func61, Try.ntmps61
    go_wp2
    go_ret2
    exact ⟨Two8.nil' HL.out (by decide), Below.refl _ _⟩
  obtain ⟨N, rfl⟩ := Int.eq_ofNat_of_zero_le (show 0 ≤ n by omega)
  have hbits := Bits_any X _ w hX uX (by omega)
  obtain ⟨bl, hbl⟩ : ∃ bl, bitLen (val X).toNat = bl := ⟨_, rfl⟩
  rw [hbl] at hbits
  by_cases h4 : 8 * N < bl
  · have HL : Hid (bytS X N = ([], 3)) := by unfold bytS; rw [if_neg h1, if_neg (by omega), hbl, if_pos (by omega)]; rfl
    clear hbl
    go_enter Try.func61, Try.ntmps61
    go_wp2_with (go_at_call 89; refine hbits.mono ?_; rintro e w' ⟨rfl, hB⟩)
    go_ret2
    exact ⟨Two8.nil' HL.out (by decide), hB⟩
  have HL : Hid (bytS X N = (beb (val X) N, 0)) := by unfold bytS; rw [if_neg h1, if_neg (by omega), hbl, if_neg (by omega)]; rfl
  have hsX := sig_le X
  have hlen := fun (w' : World) (hB : Below w.heap.size w w') => length_len (w := w') _ _ ⟨X, below_sl hB hX, by omega, rfl⟩
  obtain ⟨sg, hsg⟩ : ∃ sg, sig X = sg := ⟨_, rfl⟩
  rw [hsg] at hsX hlen
  obtain ⟨mn, hmn, hmn2⟩ : ∃ mn : Nat, mn ≤ N ∧ mn ≤ 4 * sg := ⟨min N (4 * sg), by omega, by omega⟩
  have HB : Hid (bitLen (val X).toNat = bl ∧ sig X = sg) := ⟨hbl, hsg⟩
  clear hbl hsg mn hmn hmn2
  by_cases hle : N ≤ 4 * sg
  · have hle' : (N : Int) ≤ 4 * (sg : Int) := by omega
    go_enter Try.func61, Try.ntmps61
    go_wp2_with (first
      | (go_at_call 89; refine hbits.mono ?_; rintro e w' ⟨rfl, hB⟩)
      | (at_make; refine wpList_mk _ rfl _ _ 45 rfl .u8 5 1 Try.und8 Try.info8 _ N rfl rfl (by omega) (by omega) (by omega) ?_; intro w1 hA1 hB1; have hBt := hB.trans (hB1.mono hB.size))
      | (go_at_call 78; refine (hlen _ hBt).mono ?_; rintro e w1 ⟨rfl, rfl⟩))
    have hblk : w.heap.size ≤ w'.heap.size := hB.size
    go_loopw [30] (fun iv wr => ∃ (i : Nat) (S : List Int), iv = .int .i64 i ∧ i ≤ N ∧ Arr .u8 5 wr w'.heap.size S ∧ S.length = N ∧ Below w.heap.size w wr ∧ ∀ k, k < N → S.getD k 0 = if N - 1 - k < i then val X / 256 ^ (N - 1 - k) % 256 else 0)
      (fun iv _ => N - (intOf iv).toNat)
    case atStart => exact ⟨0, _, rfl, Nat.zero_le _, hA1, by simp, hBt, fun k hk => by simp [hk]⟩
    case round =>
      clear hA1 hB1 hBt hlen hbits
      obtain ⟨i, S, rfl, hi, hA, hlS, hBt, hv⟩ := hrel
      by_cases hlt : i < N
      · rcases hXr with rfl | ⟨b, o, rfl, hb, hr⟩
        · simp at hsX; omega
        obtain ⟨m, hm⟩ : ∃ m, N - 1 - i = m := ⟨_, rfl⟩
        obtain ⟨q, hq⟩ : ∃ q, i / 4 = q := ⟨_, rfl⟩
        obtain ⟨s, hs⟩ : ∃ s, i % 4 * 8 = s := ⟨_, rfl⟩
        obtain ⟨z, hz⟩ : ∃ z, X.getD q 0 = z := ⟨_, rfl⟩
        have uz : U32 z := hz ▸ uX.at q
        have hcz : wr.cell? ⟨b, o + q, none⟩ = some (.int .u32 z) := by rw [← hz]; exact (below_rd hBt hb hr) q (by omega)
        obtain ⟨y, hcy⟩ : ∃ y, wr.cell? ⟨w'.heap.size, m, none⟩ = some (.int .u8 y) := ⟨_, hA.cell m (by omega)⟩
        have hfz : wr.frozen? ⟨w'.heap.size, m, none⟩ = false := hA.frozen m
        obtain ⟨z0, z1⟩ := uz
        have hs24 : s ≤ 24 := by omega
        have hp0 : (0 : Int) < 2 ^ s := Int.pow_pos (by decide)
        have hd0 : 0 ≤ z / 2 ^ s := Int.ediv_nonneg z0 (Int.le_of_lt hp0)
        have hd1 : z / 2 ^ s < 4294967296 := Int.lt_of_le_of_lt (Int.ediv_le_self _ z0) z1
        have hqi : (i : Int) / 4 = q := by omega
        have hsi : (i : Int) % 4 * 8 = s := by omega
        have hmi : (N : Int) - 1 - i = m := by omega
        have hqs : q < X.length := by omega
        have hmn : m < N := by omega
        have HH : Hid (X.getD q 0 = z ∧ Arr .u8 5 wr w'.heap.size S ∧ S.length = N ∧ Below w.heap.size w wr ∧ (∀ k, k < N → S.getD k 0 = if N - 1 - k < i then val X / 256 ^ (N - 1 - k) % 256 else 0) ∧ N - 1 - i = m ∧ i / 4 = q ∧ i % 4 * 8 = s) := ⟨hz, hA, hlS, hBt, hv, hm, hq, hs⟩
        clear hz hA hlS hBt hv hm hq hs hr
        go_wp2
        go_roundw
        case rel =>
          obtain ⟨hz, hA, hlS, hBt, hv, hm, hq, hs⟩ := HH.out
          refine ⟨i + 1, S.set m (z / 2 ^ s % 256), by go_num, by omega, hA.set _ _, by simpa using hlS, hBt.setCell hblk _, fun k hk => ?_⟩
          by_cases hkm : k = m
          · subst hkm
            rw [if_pos (by omega), List.getD_eq_getElem?_getD, List.getElem?_set_self (by omega)]
            have e : N - 1 - k = i := by omega
            rw [e, ← byte_of uX, hq, hs, hz]; rfl
          · rw [List.getD_eq_getElem?_getD, List.getElem?_set_ne (Ne.symm hkm), ← List.getD_eq_getElem?_getD, hv k hk]
            have e : (N - 1 - k < i) = (N - 1 - k < i + 1) := by apply propext; omega
            simp only [e]
        case measure => simp [intOf]; omega
      · have HH : Hid (Arr .u8 5 wr w'.heap.size S ∧ S.length = N ∧ Below w.heap.size w wr ∧ (∀ k, k < N → S.getD k 0 = if N - 1 - k < i then val X / 256 ^ (N - 1 - k) % 256 else 0) ∧ i = N) := ⟨hA, hlS, hBt, hv, by omega⟩
        clear hA hlS hBt hv
        go_wp2
        go_ret2
        obtain ⟨hA, hlS, hBt, hv, hiT⟩ := HH.out
        refine ⟨Two8.mk' (bs := beb (val X) N) (.inr ⟨_, ?_, hblk, ?_⟩) HL.out (by simp), hBt⟩
        · rw [beb_len]; rfl
        · have : beb (val X) N = S := by
            refine getD_ext (by rw [beb_len, hlS]) fun k hk => ?_
            rw [beb_len] at hk
            rw [beb_get _ _ _ hk, hv k hk]
            rw [if_pos (by omega)]
          rw [this]; exact hA
  · have hle' : 4 * (sg : Int) < (N : Int) := by omega
    go_enter Try.func61, Try.ntmps61
    go_wp2_with (first
      | (go_at_call 89; refine hbits.mono ?_; rintro e w' ⟨rfl, hB⟩)
      | (at_make; refine wpList_mk _ rfl _ _ 45 rfl .u8 5 1 Try.und8 Try.info8 _ N rfl rfl (by omega) (by omega) (by omega) ?_; intro w1 hA1 hB1; have hBt := hB.trans (hB1.mono hB.size))
      | (go_at_call 78; refine (hlen _ hBt).mono ?_; rintro e w1 ⟨rfl, rfl⟩))
    have hblk : w.heap.size ≤ w'.heap.size := hB.size
    go_loopw [30] (fun iv wr => ∃ (i : Nat) (S : List Int), iv = .int .i64 i ∧ i ≤ (4 * sg) ∧ Arr .u8 5 wr w'.heap.size S ∧ S.length = N ∧ Below w.heap.size w wr ∧ ∀ k, k < N → S.getD k 0 = if N - 1 - k < i then val X / 256 ^ (N - 1 - k) % 256 else 0)
      (fun iv _ => (4 * sg) - (intOf iv).toNat)
    case atStart => exact ⟨0, _, rfl, Nat.zero_le _, hA1, by simp, hBt, fun k hk => by simp [hk]⟩
    case round =>
      clear hA1 hB1 hBt hlen hbits
      obtain ⟨i, S, rfl, hi, hA, hlS, hBt, hv⟩ := hrel
      by_cases hlt : i < (4 * sg)
      · rcases hXr with rfl | ⟨b, o, rfl, hb, hr⟩
        · simp at hsX; omega
        obtain ⟨m, hm⟩ : ∃ m, N - 1 - i = m := ⟨_, rfl⟩
        obtain ⟨q, hq⟩ : ∃ q, i / 4 = q := ⟨_, rfl⟩
        obtain ⟨s, hs⟩ : ∃ s, i % 4 * 8 = s := ⟨_, rfl⟩
        obtain ⟨z, hz⟩ : ∃ z, X.getD q 0 = z := ⟨_, rfl⟩
        have uz : U32 z := hz ▸ uX.at q
        have hcz : wr.cell? ⟨b, o + q, none⟩ = some (.int .u32 z) := by rw [← hz]; exact (below_rd hBt hb hr) q (by omega)
        obtain ⟨y, hcy⟩ : ∃ y, wr.cell? ⟨w'.heap.size, m, none⟩ = some (.int .u8 y) := ⟨_, hA.cell m (by omega)⟩
        have hfz : wr.frozen? ⟨w'.heap.size, m, none⟩ = false := hA.frozen m
        obtain ⟨z0, z1⟩ := uz
        have hs24 : s ≤ 24 := by omega
        have hp0 : (0 : Int) < 2 ^ s := Int.pow_pos (by decide)
        have hd0 : 0 ≤ z / 2 ^ s := Int.ediv_nonneg z0 (Int.le_of_lt hp0)
        have hd1 : z / 2 ^ s < 4294967296 := Int.lt_of_le_of_lt (Int.ediv_le_self _ z0) z1
        have hqi : (i : Int) / 4 = q := by omega
        have hsi : (i : Int) % 4 * 8 = s := by omega
        have hmi : (N : Int) - 1 - i = m := by omega
        have hqs : q < X.length := by omega
        have hmn : m < N := by omega
        have HH : Hid (X.getD q 0 = z ∧ Arr .u8 5 wr w'.heap.size S ∧ S.length = N ∧ Below w.heap.size w wr ∧ (∀ k, k < N → S.getD k 0 = if N - 1 - k < i then val X / 256 ^ (N - 1 - k) % 256 else 0) ∧ N - 1 - i = m ∧ i / 4 = q ∧ i % 4 * 8 = s) := ⟨hz, hA, hlS, hBt, hv, hm, hq, hs⟩
        clear hz hA hlS hBt hv hm hq hs hr
        go_wp2
        go_roundw
        case rel =>
          obtain ⟨hz, hA, hlS, hBt, hv, hm, hq, hs⟩ := HH.out
          refine ⟨i + 1, S.set m (z / 2 ^ s % 256), by go_num, by omega, hA.set _ _, by simpa using hlS, hBt.setCell hblk _, fun k hk => ?_⟩
          by_cases hkm : k = m
          · subst hkm
            rw [if_pos (by omega), List.getD_eq_getElem?_getD, List.getElem?_set_self (by omega)]
            have e : N - 1 - k = i := by omega
            rw [e, ← byte_of uX, hq, hs, hz]; rfl
          · rw [List.getD_eq_getElem?_getD, List.getElem?_set_ne (Ne.symm hkm), ← List.getD_eq_getElem?_getD, hv k hk]
            have e : (N - 1 - k < i) = (N - 1 - k < i + 1) := by apply propext; omega
            simp only [e]
        case measure => simp [intOf]; omega
      · have HH : Hid (Arr .u8 5 wr w'.heap.size S ∧ S.length = N ∧ Below w.heap.size w wr ∧ (∀ k, k < N → S.getD k 0 = if N - 1 - k < i then val X / 256 ^ (N - 1 - k) % 256 else 0) ∧ i = (4 * sg)) := ⟨hA, hlS, hBt, hv, by omega⟩
        clear hA hlS hBt hv
        go_wp2
        go_ret2
        obtain ⟨hA, hlS, hBt, hv, hiT⟩ := HH.out
        refine ⟨Two8.mk' (bs := beb (val X) N) (.inr ⟨_, ?_, hblk, ?_⟩) HL.out (by simp), hBt⟩
        · rw [beb_len]; rfl
        · have : beb (val X) N = S := by
            refine getD_ext (by rw [beb_len, hlS]) fun k hk => ?_
            rw [beb_len] at hk
            rw [beb_get _ _ _ hk, hv k hk]
            split
            · rfl
            · exact high_zero uX (by have := HB.out.2; omega)
          rw [this]; exact hA
end Go.Proofs.Yteagdgbcfbkfbaa.Nt
