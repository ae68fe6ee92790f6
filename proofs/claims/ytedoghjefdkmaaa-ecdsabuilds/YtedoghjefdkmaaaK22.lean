/-
  Der: the reference's Head.
-/
import Derived.Test.YtedoghjefdkmaaaK21
namespace Go.Proofs.Ytedoghjefdkmaaa
open Go.RowKit
theorem tp_cons (n k : Nat) : ∀ i, i ≤ k → tp n (k + 1) (i + 1) = gr n (k + 1) :: tp n k i
  | 0, _ => rfl
  | i + 1, h => by
    show tp n (k + 1) (i + 1) ++ [gr n (k + 1 - (i + 1))] = gr n (k + 1) :: (tp n k i ++ [gr n (k - i)])
    rw [tp_cons n k i (by omega), show k + 1 - (i + 1) = k - i by omega]
    rfl
theorem sev_cons (n k : Nat) : sev (k + 1) n = gr n (k + 1) :: sev k n := by
  unfold sev
  rw [tp_cons n k k (Nat.le_refl _)]
  rfl
theorem tb_cons (n k : Nat) : ∀ i, i ≤ k → tb n (k + 1) (i + 1) = by8 n k :: tb n k i
  | 0, _ => rfl
  | i + 1, h => by
    show tb n (k + 1) (i + 1) ++ [by8 n (k + 1 - 1 - (i + 1))] = by8 n k :: (tb n k i ++ [by8 n (k - 1 - i)])
    rw [tb_cons n k i (by omega), show k + 1 - 1 - (i + 1) = k - 1 - i by omega]
    rfl
/-- What the reference has of a number's groups after j rounds. -/
def rs (n : Nat) : Nat → List Int
  | 0 => []
  | j + 1 => sev j n
theorem rs_len (n j : Nat) : (rs n j).length = j := by
  cases j with
  | zero => rfl
  | succ j => show (sev j n).length = _; unfold sev; simp [tp_len]
theorem rs_next (n j : Nat) : rs n (j + 1) = ((n / 128 ^ j % 128 + (if j = 0 then 0 else 128) : Nat) : Int) :: rs n j := by
  cases j with
  | zero => show sev 0 n = _; unfold sev; simp [tp, rs]
  | succ j => show sev (j + 1) n = _ :: sev j n; rw [sev_cons]; simp [gr]
theorem Row.lt {k : IntKind} {e : TypeId} {B : Nat} {w : World} {v : Value} {xs : List Int} (h : Row k e B w v xs) : ∀ b n c, v = .slice (some ⟨b, 0, none⟩) n c → b < w.heap.size := by
  intro b n c hv
  rcases h with ⟨rfl, _⟩ | ⟨b', S, rfl, _, hA, _⟩
  · simp at hv
  · simp only [Value.slice.injEq, Option.some.injEq, Addr.mk.injEq, and_true] at hv
    obtain ⟨rfl, _⟩ := hv
    exact (Array.getElem?_eq_some_iff.1 hA).1
theorem Grew.keep {k k2 : IntKind} {e e2 : TypeId} {C : Nat} {w w' : World} {v u : Value} {ys zs : List Int} (h : Grew k e w w' v ys) (hu : Row k2 e2 C w u zs) (hC : ∀ b n c, v = .slice (some ⟨b, 0, none⟩) n c → b < C) : Row k2 e2 C w' u zs := by
  rcases h with h | ⟨b, n, S, rfl, hA, hU, _, _⟩
  · exact hu.below h
  · rcases hu with hu | ⟨b', S', rfl, hB', hA', h2⟩
    · exact .inl hu
    · exact .inr ⟨b', S', rfl, hB', hU.arr hA' (by have := hC b _ _ rfl; omega), h2⟩
abbrev el (c t : Int) (cons : Bool) : Array Value := #[.int .i64 0, .int .i64 c, .int .i64 t, .bool cons, .slice none 0 0]
set_option maxRecDepth 20000 in
set_option maxHeartbeats 4000000 in
theorem RHead_short {w : World} (c : Int) (cons : Bool) (t k n l : Nat) (h0 : 0 ≤ c) (h3 : c ≤ 3) (hk : t / 128 ^ k < 128) (hk1 : ∀ j, j < k → 128 ≤ t / 128 ^ j) (ht : t ≤ 268435455) (hl : n / 256 ^ l = 0) (hl1 : ∀ j, j < l → 0 < n / 256 ^ j) (hl8 : l ≤ 7) (hn : n ≤ 16777216) (hlt : t < 31) :
    Calls Try.prog 46 #[.agg (el c t cons), .int .i64 n] w fun e w' => ∃ r, e = .returned r ∧ Row .u8 5 w.heap.size w' r (headB c cons t k ++ lenB n l) ∧ Below w.heap.size w w' := by
  have HK : Hid ((t / 128 ^ k < 128 ∧ ∀ j, j < k → 128 ≤ t / 128 ^ j) ∧ (n / 256 ^ l = 0 ∧ ∀ j, j < l → 0 < n / 256 ^ j)) := ⟨⟨hk, hk1⟩, ⟨hl, hl1⟩⟩
  clear hk hk1 hl hl1
  have hc : c = 0 ∨ c = 1 ∨ c = 2 ∨ c = 3 := by omega
  · have HB : Hid (headB c cons t k = [frst c cons + t]) := by show _ = _; unfold headB; rw [if_pos hlt]
    have w1 : IntKind.u8.wrap (t : Int) = (t : Int) := wrapU8 _ (by omega) (by omega)
    have l1 : (t : Int) < 31 := by omega
    obtain ⟨y, hy⟩ : ∃ y, frst c cons + t = y := ⟨_, rfl⟩
    rw [hy] at HB
    rcases hc with rfl | rfl | rfl | rfl <;> cases cons
    all_goals
      have hf := hy
      unfold frst at hf
      simp at hf
      have hfw : IntKind.u8.wrap y = y := wrapU8 _ (by omega) (by omega)
      go_enter Try.func46, Try.ntmps46
      go_upto_region 16 with (fail)
      refine wp_gen (fun W => Row .u8 5 w.heap.size W (.slice (some ⟨w.heap.size + 1, 0, none⟩) 1 1) [y] ∧ Below w.heap.size w W) ⟨Row.arr (S := [y]) (arr_nw (by simp) rfl) (by omega) (by simp [maxLen]), al2' (al1 _)⟩ ?_
      rintro W ⟨hrX, hbX⟩
      obtain ⟨X, hX⟩ : ∃ X, [y] = X := ⟨_, rfl⟩
      have HX : Hid (Row .u8 5 w.heap.size W (.slice (some ⟨w.heap.size + 1, 0, none⟩) 1 1) X ∧ Below w.heap.size w W ∧ X.length ≤ 20) := ⟨hX ▸ hrX, hbX, by rw [← hX]; simp⟩
      have HXe : Hid (headB _ _ t k = X) := HB.out.trans hX
      clear hrX hbX hX
      by_cases hs : n < 128
      · have HLn : Hid (lenB n l = [(n : Int)]) := by show _ = _; unfold lenB; rw [if_pos hs]
        have s1 : (n : Int) < 128 := by omega
        have s2 : IntKind.u8.wrap (n : Int) = (n : Int) := wrapU8 _ (by omega) (by omega)
        go_wp2_with (at_builtin; refine wpList_ap rfl (.tmp 53) (.tmp 56) 22 22 rfl .u8 5 1 Try.und8 Try.info8 (by decide) w.heap.size _ X rfl (HX.out.1.alloc _) _ [(n : Int)] rfl (src_sl Try.und8 (new1 _)) (by have := HX.out.2.2; simp; omega) (by have := HX.out.2.1.size; simp; omega) ?_; intro v4 w4 hr4 hg4)
        have hb4 : Below w.heap.size w w4 := (al2' HX.out.2.1).trans (hg4.below (HX.out.1.alloc _) (by have := HX.out.2.1.size; simp; omega))
        go_ret
        exact ⟨_, rfl, by rw [HLn.out, HXe.out]; exact hr4, hb4⟩
      · have HLn : Hid (lenB n l = (128 + (l : Int)) :: tb n l l) := by show _ = _; unfold lenB; rw [if_neg hs]
        have s1 : ¬ (n : Int) < 128 := by omega
        go_wp2_with fail
        go_loopw [1, 10] (fun nv bv wr => ∃ (j q : Nat) (b0 : Value), b0 = bv ∧ nv = .int .i64 q ∧ j ≤ l ∧ n / 256 ^ j = q ∧ q ≤ n ∧ Row .u8 5 W.heap.size wr b0 (tb n j j) ∧ Below W.heap.size W wr) (fun nv _ _ => (intOf nv).toNat)
        case atStart => exact ⟨0, n, _, rfl, rfl, by omega, by simp, Nat.le_refl _, Row.nil _ _ _ _, Below.refl _ _⟩
        case round =>
          obtain ⟨j, q, b0, rfl, rfl, hj, hq, hqn, hr5, hb5⟩ := hrel
          have H5 : Hid (Row .u8 5 W.heap.size wr b0 (tb n j j) ∧ Below W.heap.size W wr ∧ n / 256 ^ j = q) := ⟨hr5, hb5, hq⟩
          clear hb5 hq
          by_cases hlt2 : j < l
          · have g1 : (0 : Int) < (q : Int) := by have := HK.out.2.2 j hlt2; rw [H5.out.2.2] at this; omega
            obtain ⟨z, hz⟩ : ∃ z : Int, (q : Int) % 256 = z := ⟨_, rfl⟩
            have z2 : IntKind.u8.wrap z = z := wrapU8 _ (by omega) (by omega)
            have HZ : Hid (by8 n j = z ∧ (q : Int) % 256 = z) := ⟨by unfold by8; rw [H5.out.2.2]; omega, hz⟩
            have hq2 : q / 256 < q := by omega
            clear hr5
            go_wp2_with (at_builtin; refine wpList_ap rfl (.tmp 65) (.tmp 66) 22 22 rfl .u8 5 1 Try.und8 Try.info8 (by decide) W.heap.size _ [z] rfl (Row.arr (S := [z]) (arr_nw rfl rfl) H5.out.2.1.size (by simp [maxLen])) _ (tb n j j) rfl (src_sl Try.und8 (H5.out.1.alloc _).sl) (by have := tb_len n j j; simp; omega) (by have := H5.out.2.1.size; simp; omega) ?_; intro v6 w6 hr6 hg6)
            have hb6 : Below W.heap.size W w6 := (al2' H5.out.2.1).trans (hg6.below (Row.arr (S := [z]) (arr_nw rfl rfl) H5.out.2.1.size (by simp [maxLen])) (by have := H5.out.2.1.size; simp; omega))
            have H6 : Hid (Row .u8 5 W.heap.size w6 v6 (tb n (j + 1) (j + 1)) ∧ Below W.heap.size W w6) := ⟨by rw [tb_cons n j j (Nat.le_refl _), HZ.out.1]; exact hr6, hb6⟩
            clear hr6 hg6 hb6
            go_roundw
            case rel => exact ⟨j + 1, q / 256, _, rfl, by go_num, by omega, by rw [Nat.pow_succ, ← Nat.div_div_eq_div_mul, H5.out.2.2], by omega, H6.out.1, H6.out.2⟩
            case measure => simp [intOf]; omega
          · obtain rfl : j = l := by omega
            have g1 : ¬ (0 : Int) < (q : Int) := by have := HK.out.2.1; rw [H5.out.2.2] at this; omega
            obtain ⟨a5, c5, hv5⟩ := hr5.ne
            rw [tb_len] at hv5
            subst hv5
            have s3 : IntKind.u8.wrap (128 + (j : Int)) = 128 + (j : Int) := wrapU8 _ (by omega) (by omega)
            clear hr5
            go_wp2_with (first
              | (at_builtin; refine wpList_ap rfl (.tmp 68) (.tmp 73) 22 22 rfl .u8 5 1 Try.und8 Try.info8 (by decide) w.heap.size _ X rfl ((HX.out.1.below H5.out.2.1).alloc _) _ [128 + (j : Int)] rfl (src_sl Try.und8 (new1 _)) (by have := HX.out.2.2; simp; omega) (by have := HX.out.2.1.size; have := H5.out.2.1.size; simp; omega) ?_; intro v7 w7 hr7 hg7; have H7 : Hid (Row .u8 5 w.heap.size w7 v7 (X ++ [128 + (j : Int)]) ∧ Row .u8 5 W.heap.size w7 (.slice a5 j c5) (tb n j j) ∧ Below w.heap.size w w7) := ⟨hr7, hg7.keep (H5.out.1.alloc _) HX.out.1.lt, ((HX.out.2.1.trans (H5.out.2.1.mono HX.out.2.1.size)).trans ((al1 _).mono (by have := HX.out.2.1.size; have := H5.out.2.1.size; omega))).trans (hg7.below ((HX.out.1.below H5.out.2.1).alloc _) (by have := HX.out.2.1.size; have := H5.out.2.1.size; simp; omega))⟩; clear hr7 hg7)
              | (at_builtin; refine wpList_ap rfl (.tmp 74) (.tmp 75) 22 22 rfl .u8 5 1 Try.und8 Try.info8 (by decide) w.heap.size _ (X ++ [128 + (j : Int)]) rfl H7.out.1 _ (tb n j j) rfl (src_sl Try.und8 H7.out.2.1.sl) (by have := HX.out.2.2; have := tb_len n j j; simp; omega) H7.out.2.2.size ?_; intro v8 w8 hr8 hg8))
            have hb8 : Below w.heap.size w w8 := H7.out.2.2.trans (hg8.below H7.out.1 H7.out.2.2.size)
            go_ret
            refine ⟨_, rfl, ?_, hb8⟩
            rw [HLn.out, HXe.out]
            rw [List.append_assoc] at hr8
            exact hr8
end Go.Proofs.Ytedoghjefdkmaaa
/-
  Der: the reference's Head at a long tag.
-/
namespace Go.Proofs.Ytedoghjefdkmaaa
open Go.RowKit
theorem sev_pos {t k : Nat} (hk1 : ∀ j, j < k → 128 ≤ t / 128 ^ j) (ht : 0 < t) : ∀ j, j ≤ k → 0 < t / 128 ^ j := by
  intro j hj
  cases j with
  | zero => simpa using ht
  | succ j =>
    have := hk1 j (by omega)
    rw [Nat.pow_succ, ← Nat.div_div_eq_div_mul]
    omega
theorem sev_end {t k : Nat} (hk : t / 128 ^ k < 128) : t / 128 ^ (k + 1) = 0 := by
  rw [Nat.pow_succ, ← Nat.div_div_eq_div_mul]
  exact Nat.div_eq_of_lt hk
set_option maxRecDepth 20000 in
set_option maxHeartbeats 4000000 in
theorem RHead_long {w : World} (c : Int) (cons : Bool) (t k n l : Nat) (h0 : 0 ≤ c) (h3 : c ≤ 3) (hk : t / 128 ^ k < 128) (hk1 : ∀ j, j < k → 128 ≤ t / 128 ^ j) (hk8 : k ≤ 8) (ht : t ≤ 268435455) (hl : n / 256 ^ l = 0) (hl1 : ∀ j, j < l → 0 < n / 256 ^ j) (hl8 : l ≤ 7) (hn : n ≤ 16777216) (hlt : ¬ t < 31) :
    Calls Try.prog 46 #[.agg (el c t cons), .int .i64 n] w fun e w' => ∃ r, e = .returned r ∧ Row .u8 5 w.heap.size w' r (headB c cons t k ++ lenB n l) ∧ Below w.heap.size w w' := by
  have HK : Hid ((t / 128 ^ k < 128 ∧ ∀ j, j < k → 128 ≤ t / 128 ^ j) ∧ (n / 256 ^ l = 0 ∧ ∀ j, j < l → 0 < n / 256 ^ j)) := ⟨⟨hk, hk1⟩, ⟨hl, hl1⟩⟩
  clear hk hk1 hl hl1
  have hc : c = 0 ∨ c = 1 ∨ c = 2 ∨ c = 3 := by omega
  have HB : Hid (headB c cons t k = (frst c cons + 31) :: rs t (k + 1)) := by show _ = _; unfold headB; rw [if_neg hlt]; rfl
  obtain ⟨X, hX⟩ : ∃ X, headB c cons t k = X := ⟨_, rfl⟩
  have HX0 : Hid (headB c cons t k = X ∧ X = (frst c cons + 31) :: rs t (k + 1)) := ⟨hX, by rw [← hX, HB.out]⟩
  clear hX HB
  have HP : Hid ((∀ j, j ≤ k → 0 < t / 128 ^ j) ∧ t / 128 ^ (k + 1) = 0) := ⟨sev_pos HK.out.1.2 (by omega), sev_end HK.out.1.1⟩
  have l1 : ¬ (t : Int) < 31 := by omega
  rcases hc with rfl | rfl | rfl | rfl <;> cases cons
  all_goals
    go_enter Try.func46, Try.ntmps46
    go_wp2_with fail
    go_loopw [7, 8] (fun bv vv wr => ∃ (j q : Nat) (b0 : Value), b0 = bv ∧ vv = .int .i64 q ∧ j ≤ k + 1 ∧ t / 128 ^ j = q ∧ q ≤ t ∧ Row .u8 5 w.heap.size wr b0 (rs t j) ∧ Below w.heap.size w wr) (fun _ vv _ => (intOf vv).toNat)
    case atStart => exact ⟨0, t, _, rfl, rfl, by omega, by simp, Nat.le_refl _, Row.nil _ _ _ _, al1 _⟩
    case round =>
      obtain ⟨j, q, b0, rfl, rfl, hj, hq, hqt, hr5, hb5⟩ := hrel
      obtain ⟨a5, c5, hv5⟩ := hr5.ne
      rw [rs_len] at hv5
      subst hv5
      have H5 : Hid (Row .u8 5 w.heap.size wr (.slice a5 j c5) (rs t j) ∧ Below w.heap.size w wr ∧ t / 128 ^ j = q) := ⟨hr5, hb5, hq⟩
      clear hb5 hq hr5
      by_cases hjk : j ≤ k
      · have g1 : (0 : Int) < (q : Int) := by have := HP.out.1 j hjk; rw [H5.out.2.2] at this; omega
        have hq2 : q / 128 < q := by omega
        obtain ⟨z, hz⟩ : ∃ z : Int, (q : Int) % 128 = z := ⟨_, rfl⟩
        have z2 : IntKind.u8.wrap z = z := wrapU8 _ (by omega) (by omega)
        have z3 : IntKind.u8.wrap (z + 128) = z + 128 := wrapU8 _ (by omega) (by omega)
        by_cases hj0 : j = 0
        · have HZ : Hid (rs t (j + 1) = z :: rs t j ∧ (q : Int) % 128 = z) := ⟨by rw [rs_next, if_pos hj0, H5.out.2.2]; congr 1 <;> omega, hz⟩
          have j0 : ¬ (0 : Int) < (j : Int) := by omega
          go_wp2_with (at_builtin; refine wpList_ap rfl (.tmp 43) (.tmp 44) 22 22 rfl .u8 5 1 Try.und8 Try.info8 (by decide) w.heap.size _ [z] rfl (Row.arr (S := [z]) (arr_nw rfl rfl) H5.out.2.1.size (by simp [maxLen])) _ (rs t j) rfl (src_sl Try.und8 (H5.out.1.alloc _).sl) (by have := rs_len t j; simp; omega) (by have := H5.out.2.1.size; simp; omega) ?_; intro v6 w6 hr6 hg6)
          have hb6 : Below w.heap.size w w6 := (al2' H5.out.2.1).trans (hg6.below (Row.arr (S := [z]) (arr_nw rfl rfl) H5.out.2.1.size (by simp [maxLen])) (by have := H5.out.2.1.size; simp; omega))
          have H6 : Hid (Row .u8 5 w.heap.size w6 v6 (rs t (j + 1)) ∧ Below w.heap.size w w6) := ⟨by rw [HZ.out.1]; exact hr6, hb6⟩
          clear hr6 hg6 hb6
          go_roundw
          case rel => exact ⟨j + 1, q / 128, _, rfl, by go_num, by omega, by rw [Nat.pow_succ, ← Nat.div_div_eq_div_mul, H5.out.2.2], by omega, H6.out.1, H6.out.2⟩
          case measure => simp [intOf]; omega
        · have HZ : Hid (rs t (j + 1) = (z + 128) :: rs t j ∧ (q : Int) % 128 = z) := ⟨by rw [rs_next, if_neg hj0, H5.out.2.2]; congr 1 <;> omega, hz⟩
          have j0 : (0 : Int) < (j : Int) := by omega
          go_wp2_with (at_builtin; refine wpList_ap rfl (.tmp 43) (.tmp 44) 22 22 rfl .u8 5 1 Try.und8 Try.info8 (by decide) w.heap.size _ [z + 128] rfl (Row.arr (S := [z + 128]) (arr_nw rfl rfl) H5.out.2.1.size (by simp [maxLen])) _ (rs t j) rfl (src_sl Try.und8 (H5.out.1.alloc _).sl) (by have := rs_len t j; simp; omega) (by have := H5.out.2.1.size; simp; omega) ?_; intro v6 w6 hr6 hg6)
          have hb6 : Below w.heap.size w w6 := (al2' H5.out.2.1).trans (hg6.below (Row.arr (S := [z + 128]) (arr_nw rfl rfl) H5.out.2.1.size (by simp [maxLen])) (by have := H5.out.2.1.size; simp; omega))
          have H6 : Hid (Row .u8 5 w.heap.size w6 v6 (rs t (j + 1)) ∧ Below w.heap.size w w6) := ⟨by rw [HZ.out.1]; exact hr6, hb6⟩
          clear hr6 hg6 hb6
          go_roundw
          case rel => exact ⟨j + 1, q / 128, _, rfl, by go_num, by omega, by rw [Nat.pow_succ, ← Nat.div_div_eq_div_mul, H5.out.2.2], by omega, H6.out.1, H6.out.2⟩
          case measure => simp [intOf]; omega
      · obtain rfl : j = k + 1 := by omega
        have g1 : ¬ (0 : Int) < (q : Int) := by have := HP.out.2; rw [H5.out.2.2] at this; omega
        go_upto_region 16 with ((at_builtin; refine wpList_ap rfl (.tmp 48) (.tmp 49) 22 22 rfl .u8 5 1 Try.und8 Try.info8 (by decide) w.heap.size _ [_] rfl (Row.arr (S := [_]) (arr_nw rfl rfl) H5.out.2.1.size (by simp [maxLen])) _ (rs t (k + 1)) rfl (src_sl Try.und8 (H5.out.1.alloc _).sl) (by have := rs_len t (k + 1); simp; omega) (by have := H5.out.2.1.size; simp; omega) ?_; intro v3 W hr3 hg3))
        have hb3 : Below w.heap.size w W := (al2' H5.out.2.1).trans (hg3.below (Row.arr (S := [_]) (arr_nw rfl rfl) H5.out.2.1.size (by simp [maxLen])) (by have := H5.out.2.1.size; simp; omega))
        have HX : Hid (Row .u8 5 w.heap.size W v3 X ∧ Below w.heap.size w W ∧ X.length ≤ 20) := ⟨by rw [HX0.out.2]; exact hr3, hb3, by rw [HX0.out.2, List.length_cons, rs_len]; omega⟩
        have HXe : Hid (headB _ _ t k = X) := HX0.out.1
        clear hr3 hg3 hb3
        by_cases hs : n < 128
        · have HLn : Hid (lenB n l = [(n : Int)]) := by show _ = _; unfold lenB; rw [if_pos hs]
          have s1 : (n : Int) < 128 := by omega
          have s2 : IntKind.u8.wrap (n : Int) = (n : Int) := wrapU8 _ (by omega) (by omega)
          go_wp2_with (at_builtin; refine wpList_ap rfl (.tmp 53) (.tmp 56) 22 22 rfl .u8 5 1 Try.und8 Try.info8 (by decide) w.heap.size _ X rfl (HX.out.1.alloc _) _ [(n : Int)] rfl (src_sl Try.und8 (new1 _)) (by have := HX.out.2.2; simp; omega) (by have := HX.out.2.1.size; simp; omega) ?_; intro v4 w4 hr4 hg4)
          have hb4 : Below w.heap.size w w4 := (al2' HX.out.2.1).trans (hg4.below (HX.out.1.alloc _) (by have := HX.out.2.1.size; simp; omega))
          go_ret
          exact ⟨_, rfl, by rw [HLn.out, HXe.out]; exact hr4, hb4⟩
        · have HLn : Hid (lenB n l = (128 + (l : Int)) :: tb n l l) := by show _ = _; unfold lenB; rw [if_neg hs]
          have s1 : ¬ (n : Int) < 128 := by omega
          go_wp2_with fail
          go_loopw [1, 10] (fun nv bv wr => ∃ (j q : Nat) (b0 : Value), b0 = bv ∧ nv = .int .i64 q ∧ j ≤ l ∧ n / 256 ^ j = q ∧ q ≤ n ∧ Row .u8 5 W.heap.size wr b0 (tb n j j) ∧ Below W.heap.size W wr) (fun nv _ _ => (intOf nv).toNat)
          case atStart => exact ⟨0, n, _, rfl, rfl, by omega, by simp, Nat.le_refl _, Row.nil _ _ _ _, Below.refl _ _⟩
          case round =>
            obtain ⟨j, q, b0, rfl, rfl, hj, hq, hqn, hr5, hb5⟩ := hrel
            have H5 : Hid (Row .u8 5 W.heap.size wr b0 (tb n j j) ∧ Below W.heap.size W wr ∧ n / 256 ^ j = q) := ⟨hr5, hb5, hq⟩
            clear hb5 hq
            by_cases hlt2 : j < l
            · have g1 : (0 : Int) < (q : Int) := by have := HK.out.2.2 j hlt2; rw [H5.out.2.2] at this; omega
              obtain ⟨z, hz⟩ : ∃ z : Int, (q : Int) % 256 = z := ⟨_, rfl⟩
              have z2 : IntKind.u8.wrap z = z := wrapU8 _ (by omega) (by omega)
              have HZ : Hid (by8 n j = z ∧ (q : Int) % 256 = z) := ⟨by unfold by8; rw [H5.out.2.2]; omega, hz⟩
              have hq2 : q / 256 < q := by omega
              clear hr5
              go_wp2_with (at_builtin; refine wpList_ap rfl (.tmp 65) (.tmp 66) 22 22 rfl .u8 5 1 Try.und8 Try.info8 (by decide) W.heap.size _ [z] rfl (Row.arr (S := [z]) (arr_nw rfl rfl) H5.out.2.1.size (by simp [maxLen])) _ (tb n j j) rfl (src_sl Try.und8 (H5.out.1.alloc _).sl) (by have := tb_len n j j; simp; omega) (by have := H5.out.2.1.size; simp; omega) ?_; intro v6 w6 hr6 hg6)
              have hb6 : Below W.heap.size W w6 := (al2' H5.out.2.1).trans (hg6.below (Row.arr (S := [z]) (arr_nw rfl rfl) H5.out.2.1.size (by simp [maxLen])) (by have := H5.out.2.1.size; simp; omega))
              have H6 : Hid (Row .u8 5 W.heap.size w6 v6 (tb n (j + 1) (j + 1)) ∧ Below W.heap.size W w6) := ⟨by rw [tb_cons n j j (Nat.le_refl _), HZ.out.1]; exact hr6, hb6⟩
              clear hr6 hg6 hb6
              go_roundw
              case rel => exact ⟨j + 1, q / 256, _, rfl, by go_num, by omega, by rw [Nat.pow_succ, ← Nat.div_div_eq_div_mul, H5.out.2.2], by omega, H6.out.1, H6.out.2⟩
              case measure => simp [intOf]; omega
            · obtain rfl : j = l := by omega
              have g1 : ¬ (0 : Int) < (q : Int) := by have := HK.out.2.1; rw [H5.out.2.2] at this; omega
              obtain ⟨a5, c5, hv5⟩ := hr5.ne
              rw [tb_len] at hv5
              subst hv5
              have s3 : IntKind.u8.wrap (128 + (j : Int)) = 128 + (j : Int) := wrapU8 _ (by omega) (by omega)
              clear hr5
              go_wp2_with (first
                | (at_builtin; refine wpList_ap rfl (.tmp 68) (.tmp 73) 22 22 rfl .u8 5 1 Try.und8 Try.info8 (by decide) w.heap.size _ X rfl ((HX.out.1.below H5.out.2.1).alloc _) _ [128 + (j : Int)] rfl (src_sl Try.und8 (new1 _)) (by have := HX.out.2.2; simp; omega) (by have := HX.out.2.1.size; have := H5.out.2.1.size; simp; omega) ?_; intro v7 w7 hr7 hg7; have H7 : Hid (Row .u8 5 w.heap.size w7 v7 (X ++ [128 + (j : Int)]) ∧ Row .u8 5 W.heap.size w7 (.slice a5 j c5) (tb n j j) ∧ Below w.heap.size w w7) := ⟨hr7, hg7.keep (H5.out.1.alloc _) HX.out.1.lt, ((HX.out.2.1.trans (H5.out.2.1.mono HX.out.2.1.size)).trans ((al1 _).mono (by have := HX.out.2.1.size; have := H5.out.2.1.size; omega))).trans (hg7.below ((HX.out.1.below H5.out.2.1).alloc _) (by have := HX.out.2.1.size; have := H5.out.2.1.size; simp; omega))⟩; clear hr7 hg7)
                | (at_builtin; refine wpList_ap rfl (.tmp 74) (.tmp 75) 22 22 rfl .u8 5 1 Try.und8 Try.info8 (by decide) w.heap.size _ (X ++ [128 + (j : Int)]) rfl H7.out.1 _ (tb n j j) rfl (src_sl Try.und8 H7.out.2.1.sl) (by have := HX.out.2.2; have := tb_len n j j; simp; omega) H7.out.2.2.size ?_; intro v8 w8 hr8 hg8))
              have hb8 : Below w.heap.size w w8 := H7.out.2.2.trans (hg8.below H7.out.1 H7.out.2.2.size)
              go_ret
              refine ⟨_, rfl, ?_, hb8⟩
              rw [HLn.out, HXe.out]
              rw [List.append_assoc] at hr8
              exact hr8
end Go.Proofs.Ytedoghjefdkmaaa
/-
  Der: the reference's Put.
-/
namespace Go.Proofs.Ytedoghjefdkmaaa
open Go.RowKit
theorem RHead_any {w : World} (c : Int) (cons : Bool) (t k n l : Nat) (h0 : 0 ≤ c) (h3 : c ≤ 3) (hk : t / 128 ^ k < 128) (hk1 : ∀ j, j < k → 128 ≤ t / 128 ^ j) (hk8 : k ≤ 8) (ht : t ≤ 268435455) (hl : n / 256 ^ l = 0) (hl1 : ∀ j, j < l → 0 < n / 256 ^ j) (hl8 : l ≤ 7) (hn : n ≤ 16777216) :
    Calls Try.prog 46 #[.agg (el c t cons), .int .i64 n] w fun e w' => ∃ r, e = .returned r ∧ Row .u8 5 w.heap.size w' r (headB c cons t k ++ lenB n l) ∧ Below w.heap.size w w' := by
  by_cases h : t < 31
  · exact RHead_short c cons t k n l h0 h3 hk hk1 ht hl hl1 hl8 hn h
  · exact RHead_long c cons t k n l h0 h3 hk hk1 hk8 ht hl hl1 hl8 hn h
set_option maxRecDepth 20000 in
set_option maxHeartbeats 4000000 in
theorem RPut_any {w : World} (c : Int) (t k l : Nat) (cons : Bool) (a : Option Addr) (n cp N : Nat) (vs : List Value) (ms : List (List Int)) (hL : Lists w a n cp vs ms) (hN : ms.flatten.length = N) (hN1 : N ≤ 16777216) (hn : n ≤ 1152921504606846976) (h : headOk c t = true)
    (hk : t / 128 ^ k < 128) (hk1 : ∀ j, j < k → 128 ≤ t / 128 ^ j) (hk8 : k ≤ 8) (hl : N / 256 ^ l = 0) (hl1 : ∀ j, j < l → 0 < N / 256 ^ j) (hl8 : l ≤ 7) :
    Calls Try.prog 27 #[.int .i64 c, .int .i64 t, .bool cons, .slice a n cp] w fun e w' => ∃ r, e = .returned (.tuple #[r, .int .i64 0]) ∧ Row .u8 5 w.heap.size w' r (headB c cons t k ++ lenB N l ++ ms.flatten) ∧ Below w.heap.size w w' := by
  have hh : 0 ≤ c ∧ c ≤ 3 ∧ t ≤ 268435455 ∧ ¬ (c = 0 ∧ t = 0) := by unfold headOk at h; simp at h; omega
  have HK : Hid ((t / 128 ^ k < 128 ∧ ∀ j, j < k → 128 ≤ t / 128 ^ j) ∧ (N / 256 ^ l = 0 ∧ ∀ j, j < l → 0 < N / 256 ^ j) ∧ 0 ≤ c ∧ c ≤ 3 ∧ t ≤ 268435455) := ⟨⟨hk, hk1⟩, ⟨hl, hl1⟩, hh.1, hh.2.1, hh.2.2.1⟩
  have HL : Hid (Lists w a n cp vs ms ∧ ms.flatten.length = N) := ⟨hL, hN⟩
  clear h hk hk1 hl hl1 hL hN
  have n1 : (n : Int) ≤ 1152921504606846976 := by omega
  have d1 : decide (c < 0) = false := by simp; omega
  have d2 : decide (3 < c) = false := by simp; omega
  have d3 : decide ((t : Int) < 0) = false := by simp
  have d4 : decide ((268435455 : Int) < (t : Int)) = false := by simp; omega
  have d5 : (c == 0) = false ∨ ((c == 0) = true ∧ ((t : Int) == 0) = false) := by
    by_cases hc : c = 0
    · right; exact ⟨by simpa using hc, by simp; omega⟩
    · left; simpa using hc
  rcases d5 with d5 | ⟨d5, d6⟩
  all_goals
    go_enter Try.func27, Try.ntmps27
    go_wp2_with fail
    go_loopw [10, 11] (fun bv iv wr => ∃ (j : Nat) (b0 : Value), b0 = bv ∧ iv = .int .i64 j ∧ j ≤ n ∧ Row .u8 5 w.heap.size wr b0 (ms.take j).flatten ∧ Below w.heap.size w wr) (fun _ iv _ => n - (intOf iv).toNat)
    case atStart => exact ⟨0, _, rfl, rfl, by omega, Row.nil _ _ _ _, Below.refl _ _⟩
    case round =>
      obtain ⟨j, b0, rfl, rfl, hj, hr6, hb6⟩ := hrel
      obtain ⟨P, hP⟩ : ∃ P, (ms.take j).flatten = P := ⟨_, rfl⟩
      have HP : Hid ((ms.take j).flatten = P) := hP
      have hPN : P.length ≤ N := by rw [← hP]; have := flatten_take_le ms j; have := HL.out.2; omega
      rw [hP] at hr6
      obtain ⟨a5, c5, hv5⟩ := hr6.ne
      obtain ⟨p, hp⟩ : ∃ p, P.length = p := ⟨_, rfl⟩
      rw [hp] at hv5 hPN
      subst hv5
      have HPl : Hid (P.length = p) := hp
      have H6 : Hid (Row .u8 5 w.heap.size wr (.slice a5 p c5) P ∧ Below w.heap.size w wr) := ⟨hr6, hb6⟩
      clear hr6 hP hp
      by_cases hlt : j < n
      · have l1 : (j : Int) < (n : Int) := by omega
        obtain ⟨b, off, ai, ni, ci, rfl, hb, hvi, hcell, hsl, hu, hni⟩ := HL.out.1.at j hlt
        have hcr : wr.cell? ⟨b, off + j, none⟩ = some (.slice ai ni ci) := (hb6.cell (p := ⟨b, off + j, none⟩) hb).trans hcell
        have HI : Hid ((ms.take (j + 1)).flatten = P ++ ms.getD j [] ∧ Sl .u8 wr (.slice ai ni ci) (ms.getD j []) ∧ p + (ms.getD j []).length ≤ N ∧ (ms.getD j []).length = ni) := by
          have h0 : (ms.take (j + 1)).flatten = P ++ ms.getD j [] := by rw [flatten_take (by have := HL.out.1.len; omega), HP.out]
          refine ⟨h0, below_sl hb6 hsl, ?_, hni⟩
          have h1 := flatten_take_le ms (j + 1)
          rw [h0, List.length_append, HPl.out, HL.out.2] at h1
          exact h1
        have hfit : (ni : Int) ≤ 16777216 - (p : Int) := by have := HI.out.2.2; omega
        have hp0 : (p : Int) ≤ 16777216 := by omega
        clear hvi hsl hu hni hcell hb6
        go_wp2_with (at_builtin; refine wpList_ap rfl (.tmp 49) (.tmp 53) 22 22 rfl .u8 5 1 Try.und8 Try.info8 (by decide) w.heap.size _ P rfl H6.out.1 _ (ms.getD j []) rfl (src_sl Try.und8 HI.out.2.1) (by have := HI.out.2.2; have := HPl.out; omega) H6.out.2.size ?_; intro v7 w7 hr7 hg7)
        have hb7 : Below w.heap.size w w7 := H6.out.2.trans (hg7.below H6.out.1 H6.out.2.size)
        have H7 : Hid (Row .u8 5 w.heap.size w7 v7 (ms.take (j + 1)).flatten ∧ Below w.heap.size w w7) := ⟨by rw [HI.out.1]; exact hr7, hb7⟩
        clear hr7 hg7 hb7
        go_roundw
        case rel => exact ⟨j + 1, _, rfl, by go_num, by omega, H7.out.1, H7.out.2⟩
        case measure => simp [intOf]; omega
      · obtain rfl : j = n := by omega
        have l1 : ¬ (j : Int) < (j : Int) := by omega
        have HE : Hid (P = ms.flatten) := by show _ = _; rw [← HP.out, List.take_of_length_le (by have := HL.out.1.len; omega)]
        have hpN : p = N := by rw [← HPl.out, HE.out, HL.out.2]
        subst hpN
        clear hb6
        go_wp2_with fail
        refine (RHead_any c cons t k p l HK.out.2.2.1 HK.out.2.2.2.1 HK.out.1.1 HK.out.1.2 hk8 HK.out.2.2.2.2 HK.out.2.1.1 HK.out.2.1.2 hl8 hN1).mono ?_
        rintro e w8 ⟨r8, rfl, hr8, hb8⟩
        have H8 : Hid (Row .u8 5 wr.heap.size w8 r8 (headB c cons t k ++ lenB p l) ∧ Sl .u8 w8 (.slice a5 p c5) P ∧ Below w.heap.size w w8 ∧ wr.heap.size ≤ w8.heap.size) := ⟨hr8, below_sl hb8 H6.out.1.sl, below_via H6.out.2 hb8 (Nat.le_refl _), hb8.size⟩
        have hFl : (headB c cons t k ++ lenB p l).length ≤ 20 := by unfold headB lenB sev; split <;> split <;> simp [tp_len, tb_len] <;> omega
        clear hr8 hb8
        go_wp2_with (at_builtin; refine wpList_ap rfl (.tmp 61) (.tmp 62) 22 22 rfl .u8 5 1 Try.und8 Try.info8 (by decide) wr.heap.size _ (headB c cons t k ++ lenB p l) rfl H8.out.1 _ P rfl (src_sl Try.und8 H8.out.2.1) (by have := HPl.out; omega) H8.out.2.2.2 ?_; intro v9 w9 hr9 hg9)
        have hb9 : Below w.heap.size w w9 := H8.out.2.2.1.trans ((hg9.below H8.out.1 H8.out.2.2.2).mono H6.out.2.size)
        go_ret2
        refine ⟨_, rfl, ?_, hb9⟩
        rw [← HE.out]
        exact hr9.mono H6.out.2.size
end Go.Proofs.Ytedoghjefdkmaaa
/-
  Der: the reference's PutUint.
-/
namespace Go.Proofs.Ytedoghjefdkmaaa
open Go.RowKit
theorem pk_top {A : List Int} (hu : U32s A) : pk (val A) (4 * A.length) := by
  have h0 := val_nonneg hu
  have h1 := val_lt hu
  obtain ⟨N, hN⟩ := Int.eq_ofNat_of_zero_le h0
  rw [hN, pow32] at h1
  rw [hN, pk_nat]
  have h2 : N < 2 ^ (32 * A.length) := by exact_mod_cast h1
  exact Nat.lt_of_lt_of_le h2 (Nat.pow_le_pow_right (by decide) (by omega))
theorem pI_first {A : List Int} (hu : U32s A) (n : Nat) (hn : A.length = n) : (pI (val A) (4 * n + 1)).take 1 = [0] := by
  have h := pI_get (val A) (4 * n + 1) 0 (by omega)
  rw [show 4 * n + 1 - 1 - 0 = 4 * n by omega, high_byte hu (4 * n) (by omega)] at h
  rw [List.take_succ_eq_append_getElem (by rw [pI_len]; omega)]
  rw [List.getD_eq_getElem?_getD, List.getElem?_eq_getElem (by rw [pI_len]; omega)] at h
  simp only [List.take_zero, List.nil_append]
  exact congrArg (fun x => [x]) h
theorem take4 (P : List Int) (a : Nat) (h : a + 4 ≤ P.length) : P.take (a + 4) = P.take a ++ [P.getD a 0, P.getD (a + 1) 0, P.getD (a + 2) 0, P.getD (a + 3) 0] := by
  rw [take_snoc P (a + 3) (by omega), take_snoc P (a + 2) (by omega), take_snoc P (a + 1) (by omega), take_snoc P a (by omega)]
  simp
theorem pI_four {A : List Int} (hu : U32s A) (n q j : Nat) (z : Int) (hq : n - 1 - j = q) (hj : j < n) (hz : A.getD q 0 = z) :
    (pI (val A) (4 * n + 1)).take (1 + 4 * (j + 1)) = (pI (val A) (4 * n + 1)).take (1 + 4 * j) ++ [z / 16777216 % 256, z / 65536 % 256, z / 256 % 256, z % 256] := by
  rw [show 1 + 4 * (j + 1) = (1 + 4 * j) + 4 by omega, take4 _ _ (by rw [pI_len]; omega)]
  rw [pI_get _ _ _ (by omega), pI_get _ _ _ (by omega), pI_get _ _ _ (by omega), pI_get _ _ _ (by omega)]
  have e3 := limb_byte hu (4 * q + 3)
  have e2 := limb_byte hu (4 * q + 2)
  have e1 := limb_byte hu (4 * q + 1)
  have e0 := limb_byte hu (4 * q)
  rw [show (4 * q + 3) / 4 = q by omega, show (4 * q + 3) % 4 * 8 = 24 by omega, hz] at e3
  rw [show (4 * q + 2) / 4 = q by omega, show (4 * q + 2) % 4 * 8 = 16 by omega, hz] at e2
  rw [show (4 * q + 1) / 4 = q by omega, show (4 * q + 1) % 4 * 8 = 8 by omega, hz] at e1
  rw [show (4 * q) / 4 = q by omega, show (4 * q) % 4 * 8 = 0 by omega, hz] at e0
  rw [show 4 * n + 1 - 1 - (1 + 4 * j) = 4 * q + 3 by omega, show 4 * n + 1 - 1 - (1 + 4 * j + 1) = 4 * q + 2 by omega, show 4 * n + 1 - 1 - (1 + 4 * j + 2) = 4 * q + 1 by omega, show 4 * n + 1 - 1 - (1 + 4 * j + 3) = 4 * q by omega, ← e3, ← e2, ← e1, ← e0]
  simp
theorem drw_row {k : IntKind} {e : TypeId} {B : Nat} {w : World} {v : Value} {X : List Int} (q : Nat) (h : Row k e B w v X) : Row k e B (w.drewN q) v X := h.below ⟨rfl, rfl, rfl, Nat.le_refl _, fun _ _ => rfl⟩
set_option maxRecDepth 20000 in
set_option maxHeartbeats 4000000 in
theorem RPutUint_any {w : World} (v : Value) (A : List Int) (hA : Sl .u32 w v A) (uA : U32s A) (hl : A.length ≤ 600) :
    Calls Try.prog 28 #[v] w fun e w' => ∃ r m, IsU (val A) m ∧ m ≤ 2401 ∧ e = .returned r ∧ Sl .u8 w' r (pI (val A) m) ∧ Below w.heap.size w w' := by
  obtain ⟨a, c, rfl, hc, hx⟩ := hA
  obtain ⟨n, hn⟩ : ∃ n, A.length = n := ⟨_, rfl⟩
  obtain ⟨M, hM⟩ : ∃ M, 4 * n + 1 = M := ⟨_, rfl⟩
  have HX : Hid ((A = [] ∨ ∃ b off, a = some ⟨b, off, none⟩ ∧ b < w.heap.size ∧ Rd .u32 w b off A) ∧ A.length = n ∧ U32s A ∧ 4 * n + 1 = M ∧ (pI (val A) M).take 1 = [0] ∧ (pI (val A) M).length = M ∧ pk (val A) (M - 1)) :=
    ⟨hx, hn, uA, hM, by rw [← hM]; exact pI_first uA n hn, pI_len _ _, by rw [← hM, Nat.add_sub_cancel, ← hn]; exact pk_top uA⟩
  rw [hn] at hl hc ⊢
  have hnI : (n : Int) ≤ 600 := by omega
  clear hx hn hM uA
  go_enter Try.func28, Try.ntmps28
  go_wp2_with fail
  go_loopw [3, 4] (fun bv kv wr => ∃ (j : Nat) (k : Int) (s1 : Value), s1 = bv ∧ kv = .int .i64 k ∧ j ≤ n ∧ k = (n : Int) - 1 - j ∧ Row .u8 5 w.heap.size wr s1 ((pI (val A) M).take (1 + 4 * j)) ∧ Below w.heap.size w wr) (fun _ kv _ => (intOf kv + 1).toNat)
  case atStart => exact ⟨0, (n : Int) - 1, _, rfl, by first | rfl | go_num, by omega, by omega, by rw [show 1 + 4 * 0 = 1 from rfl, HX.out.2.2.2.2.1]; exact Row.arr (S := [0]) (arr_nw rfl rfl) (Nat.le_refl _) (by simp [maxLen]), al1 _⟩
  case round =>
    obtain ⟨j, k, s1, rfl, rfl, hj, hk, hr, hb⟩ := hrel
    have H1 : Hid (Row .u8 5 w.heap.size wr s1 ((pI (val A) M).take (1 + 4 * j)) ∧ Below w.heap.size w wr) := ⟨hr, hb⟩
    clear hr hb
    by_cases hlt : j < n
    · obtain ⟨q, rfl⟩ : ∃ q : Nat, k = (q : Int) := ⟨k.toNat, by omega⟩
      obtain ⟨b, off, ha, hb, hrd⟩ : ∃ b off, a = some ⟨b, off, none⟩ ∧ b < w.heap.size ∧ Rd .u32 w b off A := by
        rcases HX.out.1 with h | h
        · have := HX.out.2.1; rw [h] at this; simp at this; omega
        · exact h
      subst ha
      have hqn : (q : Int) < (n : Int) := by omega
      have hqn' : q < n := by omega
      obtain ⟨z, hz⟩ : ∃ z, A.getD q 0 = z := ⟨_, rfl⟩
      have uz := HX.out.2.2.1.at q
      rw [hz] at uz
      obtain ⟨z0, z1⟩ := uz
      have cz : wr.cell? ⟨b, off + q, none⟩ = some (.int .u32 z) := by
        rw [H1.out.2.cell (p := ⟨b, off + q, none⟩) hb, hrd q (by have := HX.out.2.1; omega), hz]
      obtain ⟨x3, hx3⟩ : ∃ x, IntKind.u8.wrap (z / 16777216) = x := ⟨_, rfl⟩
      obtain ⟨x2, hx2⟩ : ∃ x, IntKind.u8.wrap (z / 65536) = x := ⟨_, rfl⟩
      obtain ⟨x1, hx1⟩ : ∃ x, IntKind.u8.wrap (z / 256) = x := ⟨_, rfl⟩
      obtain ⟨x0, hx0⟩ : ∃ x, IntKind.u8.wrap z = x := ⟨_, rfl⟩
      have HZ : Hid ((pI (val A) M).take (1 + 4 * (j + 1)) = (pI (val A) M).take (1 + 4 * j) ++ [x3, x2, x1, x0] ∧ ((pI (val A) M).take (1 + 4 * j)).length ≤ 2401 ∧ (q : Int) - 1 = (n : Int) - 1 - ((j + 1 : Nat) : Int)) := by
        refine ⟨?_, ?_, by omega⟩
        · rw [← HX.out.2.2.2.1, pI_four HX.out.2.2.1 n q j z (by omega) hlt hz, ← hx3, ← hx2, ← hx1, ← hx0, wrap8, wrap8, wrap8, wrap8]
        · rw [List.length_take, HX.out.2.2.2.2.2.1, ← HX.out.2.2.2.1]; omega
      clear hz hrd hk
      have hrow := H1.out.1
      have hsz : w.heap.size ≤ wr.heap.size := H1.out.2.size
      have hbr : b < wr.heap.size := Nat.lt_of_lt_of_le hb hsz
      go_upto_region 5 with (fail)
      go_region_held3 (fun w' => w'.cell? ⟨b, off + q, none⟩ = some (.int .u32 z)) (first | go_keep | (rw [hB1.cell (p := ⟨b, off + q, none⟩) hb]; go_keep))
        ((refine step_ap (by rfl) (.tmp 13) (.tmp 37) 22 22 (by rfl) .u8 5 1 Try.und8 Try.info8 (by decide) w.heap.size _ ((pI (val A) M).take (1 + 4 * j)) (by rfl) (Row.alloc (by assumption) _) _ [x3, x2, x1, x0] (by rfl) (src_sl Try.und8 (new_sl (k := .u8) [x3, x2, x1, x0] (0, 0))) (by have := HZ.out.2.1; show (_ + 4) * 1 ≤ _; omega) (by simp; omega) ?_; intro v2 w2 hr2 hg2; have hB1 := hg2.below (Row.alloc (by assumption) _) (by simp; omega)))
      all_goals go_wp2
      have H2 : Hid (Row .u8 5 w.heap.size w2 v2 ((pI (val A) M).take (1 + 4 * (j + 1))) ∧ Below w.heap.size w w2) := ⟨by rw [HZ.out.1]; exact hr2, (al2' H1.out.2).drew.trans hB1⟩
      clear hr2 hg2
      go_roundw
      case rel => exact ⟨j + 1, (q : Int) - 1, _, rfl, rfl, by omega, HZ.out.2.2, H2.out.1, H2.out.2⟩
      case measure => simp [intOf]
    · have l1 : ¬ 0 ≤ k := by omega
      have hrow := H1.out.1
      rw [List.take_of_length_le (by rw [HX.out.2.2.2.2.2.1, ← HX.out.2.2.2.1]; omega)] at hrow
      have hM1 : 1 ≤ M := by have := HX.out.2.2.2.1; omega
      have hM2 : M ≤ 2401 := by have := HX.out.2.2.2.1; omega
      obtain ⟨b1, S1, hv, hB1, hA1, hl1, ht1, hm1⟩ := hrow.open M (pI_len _ _) (by omega)
      subst hv
      obtain ⟨k1, hk1⟩ : ∃ k, S1.length = k := ⟨_, rfl⟩
      rw [hk1] at hl1 ⊢
      have hrd : Rd .u8 wr b1 0 (pI (val A) M) := by
        have := hA1.rd 0 M (by omega)
        rw [List.drop_zero, ht1] at this
        exact this
      have H3 : Hid (Rd .u8 wr b1 0 (pI (val A) M) ∧ b1 < wr.heap.size) := ⟨hrd, hA1.lt⟩
      obtain ⟨w1, hw1⟩ : ∃ W, W = wr := ⟨wr, rfl⟩
      subst hw1
      clear hrow hrd hA1 ht1 hm1 hk1 hB1 hk
      go_wp2_with fail
      go_loopw [3] (fun av wq => ∃ (j L C : Nat), av = .slice (some ⟨b1, j, none⟩) L C ∧ j + 1 ≤ M ∧ L = M - j ∧ C = k1 - j ∧ pk (val A) (M - 1 - j) ∧ w1 = wq) (fun av _ => match av with | .slice _ L _ => L | _ => 0)
      case atStart => exact ⟨0, M, k1, rfl, by omega, rfl, rfl, HX.out.2.2.2.2.2.2, rfl⟩
      case round =>
        obtain ⟨i, L, C, rfl, hi, hL, hC, hp, rfl⟩ := hrel
        have hsl : Sl .u8 w1 (.slice (some ⟨b1, i, none⟩) L C) (pI (val A) L) := by
          refine ⟨some ⟨b1, i, none⟩, C, by rw [pI_len], by rw [pI_len]; omega, .inr ⟨b1, i, rfl, H3.out.2, fun t ht => ?_⟩⟩
          rw [pI_len] at ht
          have := H3.out.1 (i + t) (by rw [pI_len]; omega)
          rw [Nat.zero_add, pI_get (val A) M (i + t) (by omega), show M - 1 - (i + t) = L - 1 - t by omega] at this
          rw [pI_get (val A) L t ht]
          exact this
        have hiff := int_pI (n := val A) (m := L) (by omega) (by rw [show L - 1 = M - 1 - i by omega]; exact hp)
        have H4 : Hid (Sl .u8 w1 (.slice (some ⟨b1, i, none⟩) L C) (pI (val A) L) ∧ (intOk (pI (val A) L) = true ↔ (L = 1 ∨ ¬ pk (val A) (L - 2))) ∧ pk (val A) (M - 1 - i)) := ⟨hsl, hiff, hp⟩
        clear hsl hiff hp
        obtain ⟨ok, hok⟩ : ∃ ok, intOk (pI (val A) L) = ok := ⟨_, rfl⟩
        have HOK : Hid (intOk (pI (val A) L) = ok) := hok
        have HL : Hid (L = M - i ∧ C = k1 - i) := ⟨hL, hC⟩
        have hLb : L ≤ 2401 := by omega
        clear hok hL hC
        go_wp2_with fail
        refine (whole_any _ (pI (val A) L) H4.out.1 (pI_u8 _ _) (by rw [pI_len]; omega)).mono ?_
        rw [HOK.out]
        rintro e w' ⟨rfl, rfl⟩
        cases ok with
        | true =>
          have HM : Hid (IsU (val A) L) := ⟨by have := HL.out; omega, by rw [show L - 1 = M - 1 - i by have := HL.out; omega]; exact H4.out.2.2, H4.out.2.1.1 HOK.out⟩
          go_wp2
          go_ret
          exact ⟨_, L, HM.out, hLb, rfl, H4.out.1, H1.out.2⟩
        | false =>
          have hno : ¬ (L = 1 ∨ ¬ pk (val A) (L - 2)) := fun h => by have := H4.out.2.1.2 h; rw [HOK.out] at this; cases this
          have hL1 : L ≠ 1 := fun h => hno (.inl h)
          have HP : Hid (pk (val A) (M - 1 - (i + 1))) := by
            show pk _ _
            rw [show M - 1 - (i + 1) = L - 2 by have := HL.out; omega]
            exact Classical.byContradiction fun h => hno (.inr h)
          obtain ⟨L2, hL2⟩ : ∃ L2, L - 1 = L2 := ⟨_, rfl⟩
          obtain ⟨C2, hC2⟩ : ∃ C2, C - 1 = C2 := ⟨_, rfl⟩
          have hCn : ¬ C = 1 := by have := HL.out; omega
          have hLI : (1 : Int) ≤ (L : Int) := by have := HL.out; omega
          have hCI : (1 : Int) ≤ (C : Int) := by have := HL.out; omega
          have HL2 : Hid (L2 = M - (i + 1) ∧ C2 = k1 - (i + 1) ∧ i + 1 + 1 ≤ M ∧ L2 < L) := by have := HL.out; exact ⟨by omega, by omega, by omega, by omega⟩
          clear hno hL1
          go_wp2
          go_roundw
          case rel => exact ⟨i + 1, L2, C2, rfl, HL2.out.2.2.1, HL2.out.1, HL2.out.2.1, HP.out, trivial⟩
          case measure => exact HL2.out.2.2.2
end Go.Proofs.Ytedoghjefdkmaaa
