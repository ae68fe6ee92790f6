/-
  Der: the reference's Head at a long tag.
-/
import Derived.Test.YtakmdbcmkhlodaaDoorE25
namespace Go.Proofs.YtakmdbcmkhlodaaDoor
open Go.RowKit
theorem sev_pos {t k : Nat} (hk1 : ∀ j, j < k → 128 ≤ t / 128 ^ j) (ht : 0 < t) : ∀ j, j ≤ k → 0 < t / 128 ^ j := by
  intro j hj
  cases j with
  | zero => simpa using ht
  | succ j =>
    have := hk1 j (by omega)
    rw [Nat.pow_succ, ← Nat.div_div_eq_div_mul]
    omega
theorem sev_end {t k : Nat} (hk : t / 128 ^ k < 128) : t / 128 ^ (k + 1) = 0 := by
  rw [Nat.pow_succ, ← Nat.div_div_eq_div_mul]
  exact Nat.div_eq_of_lt hk
set_option maxRecDepth 20000 in
set_option maxHeartbeats 4000000 in
theorem RHead_long {w : World} (c : Int) (cons : Bool) (t k n l : Nat) (h0 : 0 ≤ c) (h3 : c ≤ 3) (hk : t / 128 ^ k < 128) (hk1 : ∀ j, j < k → 128 ≤ t / 128 ^ j) (hk8 : k ≤ 8) (ht : t ≤ 268435455) (hl : n / 256 ^ l = 0) (hl1 : ∀ j, j < l → 0 < n / 256 ^ j) (hl8 : l ≤ 7) (hn : n ≤ 16777216) (hlt : ¬ t < 31) :
    Calls Tryd.prog 20 #[.agg (el c t cons), .int .i64 n] w fun e w' => ∃ r, e = .returned r ∧ Row .u8 5 w.heap.size w' r (headB c cons t k ++ lenB n l) ∧ Below w.heap.size w w' := by
  have HK : Hid ((t / 128 ^ k < 128 ∧ ∀ j, j < k → 128 ≤ t / 128 ^ j) ∧ (n / 256 ^ l = 0 ∧ ∀ j, j < l → 0 < n / 256 ^ j)) := ⟨⟨hk, hk1⟩, ⟨hl, hl1⟩⟩
  clear hk hk1 hl hl1
  have hc : c = 0 ∨ c = 1 ∨ c = 2 ∨ c = 3 := by omega
  have HB : Hid (headB c cons t k = (frst c cons + 31) :: rs t (k + 1)) := by show _ = _; unfold headB; rw [if_neg hlt]; rfl
  obtain ⟨X, hX⟩ : ∃ X, headB c cons t k = X := ⟨_, rfl⟩
  have HX0 : Hid (headB c cons t k = X ∧ X = (frst c cons + 31) :: rs t (k + 1)) := ⟨hX, by rw [← hX, HB.out]⟩
  clear hX HB
  have HP : Hid ((∀ j, j ≤ k → 0 < t / 128 ^ j) ∧ t / 128 ^ (k + 1) = 0) := ⟨sev_pos HK.out.1.2 (by omega), sev_end HK.out.1.1⟩
  have l1 : ¬ (t : Int) < 31 := by omega
  rcases hc with rfl | rfl | rfl | rfl <;> cases cons
  all_goals
    go_enter Tryd.func20, Tryd.ntmps20
    go_wp2_with fail
    go_loopw [7, 8] (fun bv vv wr => ∃ (j q : Nat) (b0 : Value), b0 = bv ∧ vv = .int .i64 q ∧ j ≤ k + 1 ∧ t / 128 ^ j = q ∧ q ≤ t ∧ Row .u8 5 w.heap.size wr b0 (rs t j) ∧ Below w.heap.size w wr) (fun _ vv _ => (intOf vv).toNat)
    case atStart => exact ⟨0, t, _, rfl, rfl, by omega, by simp, Nat.le_refl _, Row.nil _ _ _ _, al1 _⟩
    case round =>
      obtain ⟨j, q, b0, rfl, rfl, hj, hq, hqt, hr5, hb5⟩ := hrel
      obtain ⟨a5, c5, hv5⟩ := hr5.ne
      rw [rs_len] at hv5
      subst hv5
      have H5 : Hid (Row .u8 5 w.heap.size wr (.slice a5 j c5) (rs t j) ∧ Below w.heap.size w wr ∧ t / 128 ^ j = q) := ⟨hr5, hb5, hq⟩
      clear hb5 hq hr5
      by_cases hjk : j ≤ k
      · have g1 : (0 : Int) < (q : Int) := by have := HP.out.1 j hjk; rw [H5.out.2.2] at this; omega
        have hq2 : q / 128 < q := by omega
        obtain ⟨z, hz⟩ : ∃ z : Int, (q : Int) % 128 = z := ⟨_, rfl⟩
        have z2 : IntKind.u8.wrap z = z := wrapU8 _ (by omega) (by omega)
        have z3 : IntKind.u8.wrap (z + 128) = z + 128 := wrapU8 _ (by omega) (by omega)
        by_cases hj0 : j = 0
        · have HZ : Hid (rs t (j + 1) = z :: rs t j ∧ (q : Int) % 128 = z) := ⟨by rw [rs_next, if_pos hj0, H5.out.2.2]; congr 1 <;> omega, hz⟩
          have j0 : ¬ (0 : Int) < (j : Int) := by omega
          go_wp2_with (at_builtin; refine wpList_ap rfl (.tmp 43) (.tmp 44) 23 23 rfl .u8 5 1 Tryd.und8 Tryd.info8 (by decide) w.heap.size _ [z] rfl (Row.arr (S := [z]) (arr_nw rfl rfl) H5.out.2.1.size (by simp [maxLen])) _ (rs t j) rfl (src_sl Tryd.und8 (H5.out.1.alloc _).sl) (by have := rs_len t j; simp; omega) (by have := H5.out.2.1.size; simp; omega) ?_; intro v6 w6 hr6 hg6)
          have hb6 : Below w.heap.size w w6 := (al2' H5.out.2.1).trans (hg6.below (Row.arr (S := [z]) (arr_nw rfl rfl) H5.out.2.1.size (by simp [maxLen])) (by have := H5.out.2.1.size; simp; omega))
          have H6 : Hid (Row .u8 5 w.heap.size w6 v6 (rs t (j + 1)) ∧ Below w.heap.size w w6) := ⟨by rw [HZ.out.1]; exact hr6, hb6⟩
          clear hr6 hg6 hb6
          go_roundw
          case rel => exact ⟨j + 1, q / 128, _, rfl, by go_num, by omega, by rw [Nat.pow_succ, ← Nat.div_div_eq_div_mul, H5.out.2.2], by omega, H6.out.1, H6.out.2⟩
          case measure => simp [intOf]; omega
        · have HZ : Hid (rs t (j + 1) = (z + 128) :: rs t j ∧ (q : Int) % 128 = z) := ⟨by rw [rs_next, if_neg hj0, H5.out.2.2]; congr 1 <;> omega, hz⟩
          have j0 : (0 : Int) < (j : Int) := by omega
          go_wp2_with (at_builtin; refine wpList_ap rfl (.tmp 43) (.tmp 44) 23 23 rfl .u8 5 1 Tryd.und8 Tryd.info8 (by decide) w.heap.size _ [z + 128] rfl (Row.arr (S := [z + 128]) (arr_nw rfl rfl) H5.out.2.1.size (by simp [maxLen])) _ (rs t j) rfl (src_sl Tryd.und8 (H5.out.1.alloc _).sl) (by have := rs_len t j; simp; omega) (by have := H5.out.2.1.size; simp; omega) ?_; intro v6 w6 hr6 hg6)
          have hb6 : Below w.heap.size w w6 := (al2' H5.out.2.1).trans (hg6.below (Row.arr (S := [z + 128]) (arr_nw rfl rfl) H5.out.2.1.size (by simp [maxLen])) (by have := H5.out.2.1.size; simp; omega))
          have H6 : Hid (Row .u8 5 w.heap.size w6 v6 (rs t (j + 1)) ∧ Below w.heap.size w w6) := ⟨by rw [HZ.out.1]; exact hr6, hb6⟩
          clear hr6 hg6 hb6
          go_roundw
          case rel => exact ⟨j + 1, q / 128, _, rfl, by go_num, by omega, by rw [Nat.pow_succ, ← Nat.div_div_eq_div_mul, H5.out.2.2], by omega, H6.out.1, H6.out.2⟩
          case measure => simp [intOf]; omega
      · obtain rfl : j = k + 1 := by omega
        have g1 : ¬ (0 : Int) < (q : Int) := by have := HP.out.2; rw [H5.out.2.2] at this; omega
        go_upto_region 16 with ((at_builtin; refine wpList_ap rfl (.tmp 48) (.tmp 49) 23 23 rfl .u8 5 1 Tryd.und8 Tryd.info8 (by decide) w.heap.size _ [_] rfl (Row.arr (S := [_]) (arr_nw rfl rfl) H5.out.2.1.size (by simp [maxLen])) _ (rs t (k + 1)) rfl (src_sl Tryd.und8 (H5.out.1.alloc _).sl) (by have := rs_len t (k + 1); simp; omega) (by have := H5.out.2.1.size; simp; omega) ?_; intro v3 W hr3 hg3))
        have hb3 : Below w.heap.size w W := (al2' H5.out.2.1).trans (hg3.below (Row.arr (S := [_]) (arr_nw rfl rfl) H5.out.2.1.size (by simp [maxLen])) (by have := H5.out.2.1.size; simp; omega))
        have HX : Hid (Row .u8 5 w.heap.size W v3 X ∧ Below w.heap.size w W ∧ X.length ≤ 20) := ⟨by rw [HX0.out.2]; exact hr3, hb3, by rw [HX0.out.2, List.length_cons, rs_len]; omega⟩
        have HXe : Hid (headB _ _ t k = X) := HX0.out.1
        clear hr3 hg3 hb3
        by_cases hs : n < 128
        · have HLn : Hid (lenB n l = [(n : Int)]) := by show _ = _; unfold lenB; rw [if_pos hs]
          have s1 : (n : Int) < 128 := by omega
          have s2 : IntKind.u8.wrap (n : Int) = (n : Int) := wrapU8 _ (by omega) (by omega)
          go_wp2_with (at_builtin; refine wpList_ap rfl (.tmp 53) (.tmp 56) 23 23 rfl .u8 5 1 Tryd.und8 Tryd.info8 (by decide) w.heap.size _ X rfl (HX.out.1.alloc _) _ [(n : Int)] rfl (src_sl Tryd.und8 (new1 _)) (by have := HX.out.2.2; simp; omega) (by have := HX.out.2.1.size; simp; omega) ?_; intro v4 w4 hr4 hg4)
          have hb4 : Below w.heap.size w w4 := (al2' HX.out.2.1).trans (hg4.below (HX.out.1.alloc _) (by have := HX.out.2.1.size; simp; omega))
          go_ret
          exact ⟨_, rfl, by rw [HLn.out, HXe.out]; exact hr4, hb4⟩
        · have HLn : Hid (lenB n l = (128 + (l : Int)) :: tb n l l) := by show _ = _; unfold lenB; rw [if_neg hs]
          have s1 : ¬ (n : Int) < 128 := by omega
          go_wp2_with fail
          go_loopw [1, 10] (fun nv bv wr => ∃ (j q : Nat) (b0 : Value), b0 = bv ∧ nv = .int .i64 q ∧ j ≤ l ∧ n / 256 ^ j = q ∧ q ≤ n ∧ Row .u8 5 W.heap.size wr b0 (tb n j j) ∧ Below W.heap.size W wr) (fun nv _ _ => (intOf nv).toNat)
          case atStart => exact ⟨0, n, _, rfl, rfl, by omega, by simp, Nat.le_refl _, Row.nil _ _ _ _, Below.refl _ _⟩
          case round =>
            obtain ⟨j, q, b0, rfl, rfl, hj, hq, hqn, hr5, hb5⟩ := hrel
            have H5 : Hid (Row .u8 5 W.heap.size wr b0 (tb n j j) ∧ Below W.heap.size W wr ∧ n / 256 ^ j = q) := ⟨hr5, hb5, hq⟩
            clear hb5 hq
            by_cases hlt2 : j < l
            · have g1 : (0 : Int) < (q : Int) := by have := HK.out.2.2 j hlt2; rw [H5.out.2.2] at this; omega
              obtain ⟨z, hz⟩ : ∃ z : Int, (q : Int) % 256 = z := ⟨_, rfl⟩
              have z2 : IntKind.u8.wrap z = z := wrapU8 _ (by omega) (by omega)
              have HZ : Hid (by8 n j = z ∧ (q : Int) % 256 = z) := ⟨by unfold by8; rw [H5.out.2.2]; omega, hz⟩
              have hq2 : q / 256 < q := by omega
              clear hr5
              go_wp2_with (at_builtin; refine wpList_ap rfl (.tmp 65) (.tmp 66) 23 23 rfl .u8 5 1 Tryd.und8 Tryd.info8 (by decide) W.heap.size _ [z] rfl (Row.arr (S := [z]) (arr_nw rfl rfl) H5.out.2.1.size (by simp [maxLen])) _ (tb n j j) rfl (src_sl Tryd.und8 (H5.out.1.alloc _).sl) (by have := tb_len n j j; simp; omega) (by have := H5.out.2.1.size; simp; omega) ?_; intro v6 w6 hr6 hg6)
              have hb6 : Below W.heap.size W w6 := (al2' H5.out.2.1).trans (hg6.below (Row.arr (S := [z]) (arr_nw rfl rfl) H5.out.2.1.size (by simp [maxLen])) (by have := H5.out.2.1.size; simp; omega))
              have H6 : Hid (Row .u8 5 W.heap.size w6 v6 (tb n (j + 1) (j + 1)) ∧ Below W.heap.size W w6) := ⟨by rw [tb_cons n j j (Nat.le_refl _), HZ.out.1]; exact hr6, hb6⟩
              clear hr6 hg6 hb6
              go_roundw
              case rel => exact ⟨j + 1, q / 256, _, rfl, by go_num, by omega, by rw [Nat.pow_succ, ← Nat.div_div_eq_div_mul, H5.out.2.2], by omega, H6.out.1, H6.out.2⟩
              case measure => simp [intOf]; omega
            · obtain rfl : j = l := by omega
              have g1 : ¬ (0 : Int) < (q : Int) := by have := HK.out.2.1; rw [H5.out.2.2] at this; omega
              obtain ⟨a5, c5, hv5⟩ := hr5.ne
              rw [tb_len] at hv5
              subst hv5
              have s3 : IntKind.u8.wrap (128 + (j : Int)) = 128 + (j : Int) := wrapU8 _ (by omega) (by omega)
              clear hr5
              go_wp2_with (first
                | (at_builtin; refine wpList_ap rfl (.tmp 68) (.tmp 73) 23 23 rfl .u8 5 1 Tryd.und8 Tryd.info8 (by decide) w.heap.size _ X rfl ((HX.out.1.below H5.out.2.1).alloc _) _ [128 + (j : Int)] rfl (src_sl Tryd.und8 (new1 _)) (by have := HX.out.2.2; simp; omega) (by have := HX.out.2.1.size; have := H5.out.2.1.size; simp; omega) ?_; intro v7 w7 hr7 hg7; have H7 : Hid (Row .u8 5 w.heap.size w7 v7 (X ++ [128 + (j : Int)]) ∧ Row .u8 5 W.heap.size w7 (.slice a5 j c5) (tb n j j) ∧ Below w.heap.size w w7) := ⟨hr7, hg7.keep (H5.out.1.alloc _) HX.out.1.lt, ((HX.out.2.1.trans (H5.out.2.1.mono HX.out.2.1.size)).trans ((al1 _).mono (by have := HX.out.2.1.size; have := H5.out.2.1.size; omega))).trans (hg7.below ((HX.out.1.below H5.out.2.1).alloc _) (by have := HX.out.2.1.size; have := H5.out.2.1.size; simp; omega))⟩; clear hr7 hg7)
                | (at_builtin; refine wpList_ap rfl (.tmp 74) (.tmp 75) 23 23 rfl .u8 5 1 Tryd.und8 Tryd.info8 (by decide) w.heap.size _ (X ++ [128 + (j : Int)]) rfl H7.out.1 _ (tb n j j) rfl (src_sl Tryd.und8 H7.out.2.1.sl) (by have := HX.out.2.2; have := tb_len n j j; simp; omega) H7.out.2.2.size ?_; intro v8 w8 hr8 hg8))
              have hb8 : Below w.heap.size w w8 := H7.out.2.2.trans (hg8.below H7.out.1 H7.out.2.2.size)
              go_ret
              refine ⟨_, rfl, ?_, hb8⟩
              rw [HLn.out, HXe.out]
              rw [List.append_assoc] at hr8
              exact hr8
end Go.Proofs.YtakmdbcmkhlodaaDoor
