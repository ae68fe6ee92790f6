/-
  Der: the reference's Head.
-/
import Derived.Test.YtakmdbcmkhlodaaDoorE24
namespace Go.Proofs.YtakmdbcmkhlodaaDoor
open Go.RowKit
theorem tp_cons (n k : Nat) : ∀ i, i ≤ k → tp n (k + 1) (i + 1) = gr n (k + 1) :: tp n k i
  | 0, _ => rfl
  | i + 1, h => by
    show tp n (k + 1) (i + 1) ++ [gr n (k + 1 - (i + 1))] = gr n (k + 1) :: (tp n k i ++ [gr n (k - i)])
    rw [tp_cons n k i (by omega), show k + 1 - (i + 1) = k - i by omega]
    rfl
theorem sev_cons (n k : Nat) : sev (k + 1) n = gr n (k + 1) :: sev k n := by
  unfold sev
  rw [tp_cons n k k (Nat.le_refl _)]
  rfl
theorem tb_cons (n k : Nat) : ∀ i, i ≤ k → tb n (k + 1) (i + 1) = by8 n k :: tb n k i
  | 0, _ => rfl
  | i + 1, h => by
    show tb n (k + 1) (i + 1) ++ [by8 n (k + 1 - 1 - (i + 1))] = by8 n k :: (tb n k i ++ [by8 n (k - 1 - i)])
    rw [tb_cons n k i (by omega), show k + 1 - 1 - (i + 1) = k - 1 - i by omega]
    rfl
/-- What the reference has of a number's groups after j rounds. -/
def rs (n : Nat) : Nat → List Int
  | 0 => []
  | j + 1 => sev j n
theorem rs_len (n j : Nat) : (rs n j).length = j := by
  cases j with
  | zero => rfl
  | succ j => show (sev j n).length = _; unfold sev; simp [tp_len]
theorem rs_next (n j : Nat) : rs n (j + 1) = ((n / 128 ^ j % 128 + (if j = 0 then 0 else 128) : Nat) : Int) :: rs n j := by
  cases j with
  | zero => show sev 0 n = _; unfold sev; simp [tp, rs]
  | succ j => show sev (j + 1) n = _ :: sev j n; rw [sev_cons]; simp [gr]
theorem Row.lt {k : IntKind} {e : TypeId} {B : Nat} {w : World} {v : Value} {xs : List Int} (h : Row k e B w v xs) : ∀ b n c, v = .slice (some ⟨b, 0, none⟩) n c → b < w.heap.size := by
  intro b n c hv
  rcases h with ⟨rfl, _⟩ | ⟨b', S, rfl, _, hA, _⟩
  · simp at hv
  · simp only [Value.slice.injEq, Option.some.injEq, Addr.mk.injEq, and_true] at hv
    obtain ⟨rfl, _⟩ := hv
    exact (Array.getElem?_eq_some_iff.1 hA).1
theorem Grew.keep {k k2 : IntKind} {e e2 : TypeId} {C : Nat} {w w' : World} {v u : Value} {ys zs : List Int} (h : Grew k e w w' v ys) (hu : Row k2 e2 C w u zs) (hC : ∀ b n c, v = .slice (some ⟨b, 0, none⟩) n c → b < C) : Row k2 e2 C w' u zs := by
  rcases h with h | ⟨b, n, S, rfl, hA, hU, _, _⟩
  · exact hu.below h
  · rcases hu with hu | ⟨b', S', rfl, hB', hA', h2⟩
    · exact .inl hu
    · exact .inr ⟨b', S', rfl, hB', hU.arr hA' (by have := hC b _ _ rfl; omega), h2⟩
abbrev el (c t : Int) (cons : Bool) : Array Value := #[.int .i64 0, .int .i64 c, .int .i64 t, .bool cons, .slice none 0 0]
set_option maxRecDepth 20000 in
set_option maxHeartbeats 4000000 in
theorem RHead_short {w : World} (c : Int) (cons : Bool) (t k n l : Nat) (h0 : 0 ≤ c) (h3 : c ≤ 3) (hk : t / 128 ^ k < 128) (hk1 : ∀ j, j < k → 128 ≤ t / 128 ^ j) (ht : t ≤ 268435455) (hl : n / 256 ^ l = 0) (hl1 : ∀ j, j < l → 0 < n / 256 ^ j) (hl8 : l ≤ 7) (hn : n ≤ 16777216) (hlt : t < 31) :
    Calls Tryd.prog 20 #[.agg (el c t cons), .int .i64 n] w fun e w' => ∃ r, e = .returned r ∧ Row .u8 5 w.heap.size w' r (headB c cons t k ++ lenB n l) ∧ Below w.heap.size w w' := by
  have HK : Hid ((t / 128 ^ k < 128 ∧ ∀ j, j < k → 128 ≤ t / 128 ^ j) ∧ (n / 256 ^ l = 0 ∧ ∀ j, j < l → 0 < n / 256 ^ j)) := ⟨⟨hk, hk1⟩, ⟨hl, hl1⟩⟩
  clear hk hk1 hl hl1
  have hc : c = 0 ∨ c = 1 ∨ c = 2 ∨ c = 3 := by omega
  · have HB : Hid (headB c cons t k = [frst c cons + t]) := by show _ = _; unfold headB; rw [if_pos hlt]
    have w1 : IntKind.u8.wrap (t : Int) = (t : Int) := wrapU8 _ (by omega) (by omega)
    have l1 : (t : Int) < 31 := by omega
    obtain ⟨y, hy⟩ : ∃ y, frst c cons + t = y := ⟨_, rfl⟩
    rw [hy] at HB
    rcases hc with rfl | rfl | rfl | rfl <;> cases cons
    all_goals
      have hf := hy
      unfold frst at hf
      simp at hf
      have hfw : IntKind.u8.wrap y = y := wrapU8 _ (by omega) (by omega)
      go_enter Tryd.func20, Tryd.ntmps20
      go_upto_region 16 with (fail)
      refine wp_gen (fun W => Row .u8 5 w.heap.size W (.slice (some ⟨w.heap.size + 1, 0, none⟩) 1 1) [y] ∧ Below w.heap.size w W) ⟨Row.arr (S := [y]) (arr_nw (by simp) rfl) (by omega) (by simp [maxLen]), al2' (al1 _)⟩ ?_
      rintro W ⟨hrX, hbX⟩
      obtain ⟨X, hX⟩ : ∃ X, [y] = X := ⟨_, rfl⟩
      have HX : Hid (Row .u8 5 w.heap.size W (.slice (some ⟨w.heap.size + 1, 0, none⟩) 1 1) X ∧ Below w.heap.size w W ∧ X.length ≤ 20) := ⟨hX ▸ hrX, hbX, by rw [← hX]; simp⟩
      have HXe : Hid (headB _ _ t k = X) := HB.out.trans hX
      clear hrX hbX hX
      by_cases hs : n < 128
      · have HLn : Hid (lenB n l = [(n : Int)]) := by show _ = _; unfold lenB; rw [if_pos hs]
        have s1 : (n : Int) < 128 := by omega
        have s2 : IntKind.u8.wrap (n : Int) = (n : Int) := wrapU8 _ (by omega) (by omega)
        go_wp2_with (at_builtin; refine wpList_ap rfl (.tmp 53) (.tmp 56) 23 23 rfl .u8 5 1 Tryd.und8 Tryd.info8 (by decide) w.heap.size _ X rfl (HX.out.1.alloc _) _ [(n : Int)] rfl (src_sl Tryd.und8 (new1 _)) (by have := HX.out.2.2; simp; omega) (by have := HX.out.2.1.size; simp; omega) ?_; intro v4 w4 hr4 hg4)
        have hb4 : Below w.heap.size w w4 := (al2' HX.out.2.1).trans (hg4.below (HX.out.1.alloc _) (by have := HX.out.2.1.size; simp; omega))
        go_ret
        exact ⟨_, rfl, by rw [HLn.out, HXe.out]; exact hr4, hb4⟩
      · have HLn : Hid (lenB n l = (128 + (l : Int)) :: tb n l l) := by show _ = _; unfold lenB; rw [if_neg hs]
        have s1 : ¬ (n : Int) < 128 := by omega
        go_wp2_with fail
        go_loopw [1, 10] (fun nv bv wr => ∃ (j q : Nat) (b0 : Value), b0 = bv ∧ nv = .int .i64 q ∧ j ≤ l ∧ n / 256 ^ j = q ∧ q ≤ n ∧ Row .u8 5 W.heap.size wr b0 (tb n j j) ∧ Below W.heap.size W wr) (fun nv _ _ => (intOf nv).toNat)
        case atStart => exact ⟨0, n, _, rfl, rfl, by omega, by simp, Nat.le_refl _, Row.nil _ _ _ _, Below.refl _ _⟩
        case round =>
          obtain ⟨j, q, b0, rfl, rfl, hj, hq, hqn, hr5, hb5⟩ := hrel
          have H5 : Hid (Row .u8 5 W.heap.size wr b0 (tb n j j) ∧ Below W.heap.size W wr ∧ n / 256 ^ j = q) := ⟨hr5, hb5, hq⟩
          clear hb5 hq
          by_cases hlt2 : j < l
          · have g1 : (0 : Int) < (q : Int) := by have := HK.out.2.2 j hlt2; rw [H5.out.2.2] at this; omega
            obtain ⟨z, hz⟩ : ∃ z : Int, (q : Int) % 256 = z := ⟨_, rfl⟩
            have z2 : IntKind.u8.wrap z = z := wrapU8 _ (by omega) (by omega)
            have HZ : Hid (by8 n j = z ∧ (q : Int) % 256 = z) := ⟨by unfold by8; rw [H5.out.2.2]; omega, hz⟩
            have hq2 : q / 256 < q := by omega
            clear hr5
            go_wp2_with (at_builtin; refine wpList_ap rfl (.tmp 65) (.tmp 66) 23 23 rfl .u8 5 1 Tryd.und8 Tryd.info8 (by decide) W.heap.size _ [z] rfl (Row.arr (S := [z]) (arr_nw rfl rfl) H5.out.2.1.size (by simp [maxLen])) _ (tb n j j) rfl (src_sl Tryd.und8 (H5.out.1.alloc _).sl) (by have := tb_len n j j; simp; omega) (by have := H5.out.2.1.size; simp; omega) ?_; intro v6 w6 hr6 hg6)
            have hb6 : Below W.heap.size W w6 := (al2' H5.out.2.1).trans (hg6.below (Row.arr (S := [z]) (arr_nw rfl rfl) H5.out.2.1.size (by simp [maxLen])) (by have := H5.out.2.1.size; simp; omega))
            have H6 : Hid (Row .u8 5 W.heap.size w6 v6 (tb n (j + 1) (j + 1)) ∧ Below W.heap.size W w6) := ⟨by rw [tb_cons n j j (Nat.le_refl _), HZ.out.1]; exact hr6, hb6⟩
            clear hr6 hg6 hb6
            go_roundw
            case rel => exact ⟨j + 1, q / 256, _, rfl, by go_num, by omega, by rw [Nat.pow_succ, ← Nat.div_div_eq_div_mul, H5.out.2.2], by omega, H6.out.1, H6.out.2⟩
            case measure => simp [intOf]; omega
          · obtain rfl : j = l := by omega
            have g1 : ¬ (0 : Int) < (q : Int) := by have := HK.out.2.1; rw [H5.out.2.2] at this; omega
            obtain ⟨a5, c5, hv5⟩ := hr5.ne
            rw [tb_len] at hv5
            subst hv5
            have s3 : IntKind.u8.wrap (128 + (j : Int)) = 128 + (j : Int) := wrapU8 _ (by omega) (by omega)
            clear hr5
            go_wp2_with (first
              | (at_builtin; refine wpList_ap rfl (.tmp 68) (.tmp 73) 23 23 rfl .u8 5 1 Tryd.und8 Tryd.info8 (by decide) w.heap.size _ X rfl ((HX.out.1.below H5.out.2.1).alloc _) _ [128 + (j : Int)] rfl (src_sl Tryd.und8 (new1 _)) (by have := HX.out.2.2; simp; omega) (by have := HX.out.2.1.size; have := H5.out.2.1.size; simp; omega) ?_; intro v7 w7 hr7 hg7; have H7 : Hid (Row .u8 5 w.heap.size w7 v7 (X ++ [128 + (j : Int)]) ∧ Row .u8 5 W.heap.size w7 (.slice a5 j c5) (tb n j j) ∧ Below w.heap.size w w7) := ⟨hr7, hg7.keep (H5.out.1.alloc _) HX.out.1.lt, ((HX.out.2.1.trans (H5.out.2.1.mono HX.out.2.1.size)).trans ((al1 _).mono (by have := HX.out.2.1.size; have := H5.out.2.1.size; omega))).trans (hg7.below ((HX.out.1.below H5.out.2.1).alloc _) (by have := HX.out.2.1.size; have := H5.out.2.1.size; simp; omega))⟩; clear hr7 hg7)
              | (at_builtin; refine wpList_ap rfl (.tmp 74) (.tmp 75) 23 23 rfl .u8 5 1 Tryd.und8 Tryd.info8 (by decide) w.heap.size _ (X ++ [128 + (j : Int)]) rfl H7.out.1 _ (tb n j j) rfl (src_sl Tryd.und8 H7.out.2.1.sl) (by have := HX.out.2.2; have := tb_len n j j; simp; omega) H7.out.2.2.size ?_; intro v8 w8 hr8 hg8))
            have hb8 : Below w.heap.size w w8 := H7.out.2.2.trans (hg8.below H7.out.1 H7.out.2.2.size)
            go_ret
            refine ⟨_, rfl, ?_, hb8⟩
            rw [HLn.out, HXe.out]
            rw [List.append_assoc] at hr8
            exact hr8
end Go.Proofs.YtakmdbcmkhlodaaDoor
