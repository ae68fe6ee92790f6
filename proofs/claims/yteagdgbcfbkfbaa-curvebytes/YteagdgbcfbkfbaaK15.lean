/-
  The reference's digits: less.
-/
import Derived.Test.YteagdgbcfbkfbaaK14
namespace Go.Proofs.Yteagdgbcfbkfbaa
open Go.RowKit
set_option maxRecDepth 20000
/-- Thirteen digits of 32 bits, as a value. -/
def dgA (A : List Int) : Value := .agg (A.map (Value.int .u64)).toArray
theorem Try.sizeDg : (Try.prog.info? 76).map (·.size) = some 13 := by kernel_rfl
set_option maxHeartbeats 2000000 in
theorem less_any {w : World} (A B : List Int) (uA : U32s A) (uB : U32s B) (lA : A.length = 13) (lB : B.length = 13) :
    Calls Try.prog 107 #[dgA A, dgA B] w fun e w' => e = .returned (.bool (decide (val A < val B))) ∧ Below w.heap.size w w' := by
  have HA : Hid (U32s A ∧ U32s B) := ⟨uA, uB⟩
  unfold dgA
  go_enter Try.func107, Try.ntmps107
  go_upto_region 1 with (first
    | refine wpList_boxR rfl 76 (.tmp 0) rfl (A.map (Value.int .u64)).toArray rfl ?_
    | refine wpList_boxR rfl 76 (.tmp 1) rfl (B.map (Value.int .u64)).toArray rfl ?_)
  refine wp_gen (fun W => Blk 76 W w.heap.size (A.map (Value.int .u64)) ∧ Blk 76 W (w.heap.size + 1) (B.map (Value.int .u64)) ∧ Below w.heap.size w W) ⟨(Blk.new _ w _).alloc _, by have := Blk.new 76 (w.alloc (.cells (A.map (Value.int .u64)).toArray 76)) (B.map (Value.int .u64)); rw [World.size_alloc] at this; exact this, (al1 _).alloc (by simp) _⟩ ?_
  rintro W2 ⟨hA, hB, hBw⟩
  have H2 : Hid (Below w.heap.size w W2) := hBw
  have hA2 : Arr .u64 76 W2 w.heap.size A := hA.arr
  have hB2 : Arr .u64 76 W2 (w.heap.size + 1) B := hB.arr
  have HR : Hid (∀ W3, Below W2.heap.size W2 W3 → (Below w.heap.size w W3 ∧ ∀ k, k < 13 → W3.cell? ⟨w.heap.size, k, none⟩ = some (.int .u64 (A.getD k 0)) ∧ W3.cell? ⟨w.heap.size + 1, k, none⟩ = some (.int .u64 (B.getD k 0)))) := fun W3 h3 => ⟨below_via hBw h3 (Nat.le_refl _), fun k hk => ⟨(below_arr h3 hA2.lt hA2).cell k (by omega), (below_arr h3 hB2.lt hB2).cell k (by omega)⟩⟩
  clear hA hB hBw hA2 hB2 H2
  have HZ : Hid (∀ j, 13 ≤ j → A.getD j 0 = B.getD j 0) := fun j hj => by simp [List.getD_eq_getElem?_getD, List.getElem?_eq_none (show A.length ≤ j by omega), List.getElem?_eq_none (show B.length ≤ j by omega)]
  clear uA uB lA lB
  go_wp2
  go_loopw [5] (fun i wr => ∃ k : Nat, i = .int .i64 ((k : Int) - 1) ∧ k ≤ 13 ∧ Hid (∀ j, k ≤ j → A.getD j 0 = B.getD j 0) ∧ Hid (Below W2.heap.size W2 wr)) (fun i _ => ((intOf i) + 1).toNat)
  case atStart => exact ⟨13, by go_num, Nat.le_refl _, HZ.out, Below.refl _ _⟩
  case round =>
    clear HZ
    obtain ⟨k, rfl, hk, HK, H3⟩ := hrel
    cases k with
    | zero =>
      have HE : Hid (decide (val A < val B) = false) := by
        have h : val A = val B := Nt.val_ext _ _ (fun j => HK.out j (Nat.zero_le _))
        show _ = _; rw [h]; simp
      clear HK
      rw [show ((0 : Nat) : Int) - 1 = -1 from rfl]
      go_wp2
      go_ret
      exact ⟨by rw [HE.out]; rfl, (HR.out _ H3.out).1⟩
    | succ m =>
      obtain ⟨h1, h2⟩ := (HR.out _ H3.out).2 m (by omega)
      obtain ⟨x, hx⟩ : ∃ x, A.getD m 0 = x := ⟨_, rfl⟩
      obtain ⟨y, hy⟩ : ∃ y, B.getD m 0 = y := ⟨_, rfl⟩
      rw [hx] at h1; rw [hy] at h2
      have HX : Hid (A.getD m 0 = x ∧ B.getD m 0 = y) := ⟨hx, hy⟩
      have hi : ((m + 1 : Nat) : Int) - 1 = m := by omega
      rw [hi]
      have ux : U32 x := hx ▸ HA.out.1.at m
      have uy : U32 y := hy ▸ HA.out.2.at m
      obtain ⟨ux1, ux2⟩ := ux
      obtain ⟨uy1, uy2⟩ := uy
      clear hx hy hi
      rcases Int.lt_trichotomy x y with hlt | rfl | hlt
      · have HE : Hid (decide (val A < val B) = true) := by
          have h : val A < val B := Nt.val_lt_of m A B HA.out.1 HA.out.2 (fun j hj => HK.out j hj) (by rw [HX.out.1, HX.out.2]; exact hlt)
          show _ = _; simpa using h
        go_wp2
        go_quiet (fail)
        go_wp2
        go_quiet (fail)
        go_wp2
        go_ret
        exact ⟨by rw [HE.out]; simp, (HR.out _ H3.out).1.trans ⟨rfl, rfl, rfl, Nat.le_refl _, fun _ _ => rfl⟩⟩
      · go_wp2
        go_quiet (fail)
        go_wp2
        go_round
        case rel => exact ⟨m, by go_num, by omega, fun j hj => by
          rcases Nat.lt_or_ge m j with h | h
          · exact HK.out j h
          · rw [show j = m by omega, HX.out.1, HX.out.2], H3.out.trans ⟨rfl, rfl, rfl, Nat.le_refl _, fun _ _ => rfl⟩⟩
        case measure => simp [intOf]; try omega
      · have HE : Hid (decide (val A < val B) = false) := by
          have h : val B < val A := Nt.val_lt_of m B A HA.out.2 HA.out.1 (fun j hj => (HK.out j hj).symm) (by rw [HX.out.1, HX.out.2]; exact hlt)
          show _ = _; rw [decide_eq_false_iff_not]; omega
        have hn : ¬ x < y := by omega
        go_wp2
        go_quiet (fail)
        go_wp2
        go_quiet (fail)
        go_wp2
        go_ret
        exact ⟨by rw [HE.out]; simp [hn], (HR.out _ H3.out).1.trans ⟨rfl, rfl, rfl, Nat.le_refl _, fun _ _ => rfl⟩⟩
end Go.Proofs.Yteagdgbcfbkfbaa
/-
  The reference's digits: plus.
-/
namespace Go.Proofs.Yteagdgbcfbkfbaa
open Go.RowKit
set_option maxRecDepth 20000
theorem getD_app_drop (Z A : List Int) : (Z ++ A.drop Z.length).getD Z.length 0 = A.getD Z.length 0 := by
  simp [List.getD_eq_getElem?_getD, List.getElem?_append_right, List.getElem?_drop]
theorem set_app_drop (Z A : List Int) (x : Int) (h : Z.length < A.length) : (Z ++ A.drop Z.length).set Z.length x = (Z ++ [x]) ++ A.drop (Z ++ [x]).length := by
  rw [List.set_append_right _ _ (Nat.le_refl _), Nat.sub_self, List.drop_eq_getElem_cons h, List.set_cons_zero]
  simp
theorem set_set_app_drop (Z A : List Int) (y x : Int) (h : Z.length < A.length) : ((Z ++ A.drop Z.length).set Z.length y).set Z.length x = (Z ++ [x]) ++ A.drop (Z ++ [x]).length := by
  rw [List.set_set, set_app_drop _ _ _ h]
/-- A boxed triple of blocks: two numbers and the place of the answer. -/
theorem threeBlk {w : World} (A B : List Int) (o : Obj) (ho : o = .cells ((List.replicate 13 (0 : Int)).map (Value.int .u64)).toArray 76) :
    Arr .u64 76 (((w.alloc (.cells (A.map (Value.int .u64)).toArray 76)).alloc (.cells (B.map (Value.int .u64)).toArray 76)).alloc o) w.heap.size A ∧
    Arr .u64 76 (((w.alloc (.cells (A.map (Value.int .u64)).toArray 76)).alloc (.cells (B.map (Value.int .u64)).toArray 76)).alloc o) (w.heap.size + 1) B ∧
    Arr .u64 76 (((w.alloc (.cells (A.map (Value.int .u64)).toArray 76)).alloc (.cells (B.map (Value.int .u64)).toArray 76)).alloc o) (w.heap.size + 1 + 1) (List.replicate 13 0) ∧
    Below w.heap.size w (((w.alloc (.cells (A.map (Value.int .u64)).toArray 76)).alloc (.cells (B.map (Value.int .u64)).toArray 76)).alloc o) := by
  subst ho
  refine ⟨(((Blk.new _ w (A.map (Value.int .u64))).alloc _).alloc _).arr, ?_, ?_, ((al1 _).alloc (by simp) _).alloc (by simp; omega) _⟩
  · have h := Blk.new 76 (w.alloc (.cells (A.map (Value.int .u64)).toArray 76)) (B.map (Value.int .u64))
    rw [World.size_alloc] at h
    exact (h.alloc _).arr
  · have h := Blk.new 76 ((w.alloc (.cells (A.map (Value.int .u64)).toArray 76)).alloc (.cells (B.map (Value.int .u64)).toArray 76)) ((List.replicate 13 (0 : Int)).map (Value.int .u64))
    rw [World.size_alloc, World.size_alloc] at h
    exact h.arr
theorem plus_step (P cy a b z cn vZ vA vB : Int) (h : vZ + P * cy = vA + vB) (e : z + 4294967296 * cn = a + b + cy) : vZ + P * z + P * 4294967296 * cn = vA + P * a + (vB + P * b) := by
  have h2 : P * (z + 4294967296 * cn) = P * (a + b + cy) := by rw [e]
  rw [Int.mul_add, Int.mul_add, Int.mul_add, ← Int.mul_assoc] at h2
  omega
set_option maxHeartbeats 2000000 in
theorem plus_any {w : World} (A B : List Int) (uA : U32s A) (uB : U32s B) (lA : A.length = 13) (lB : B.length = 13) (hs : val A + val B < 4294967296 ^ 13) :
    Calls Try.prog 108 #[dgA A, dgA B] w fun e w' => ∃ Z, e = .returned (dgA Z) ∧ U32s Z ∧ Z.length = 13 ∧ val Z = val A + val B ∧ Below w.heap.size w w' := by
  have HA : Hid (U32s A ∧ U32s B ∧ val A + val B < 4294967296 ^ 13) := ⟨uA, uB, hs⟩
  unfold dgA
  go_enter Try.func108, Try.ntmps108
  go_upto_region 1 with (first
    | refine wpList_boxR rfl 76 (.tmp 0) rfl (A.map (Value.int .u64)).toArray rfl ?_
    | refine wpList_boxR rfl 76 (.tmp 1) rfl (B.map (Value.int .u64)).toArray rfl ?_)
  refine wp_gen (fun W => Arr .u64 76 W w.heap.size A ∧ Arr .u64 76 W (w.heap.size + 1) B ∧ Arr .u64 76 W (w.heap.size + 1 + 1) (List.replicate 13 0) ∧ Below w.heap.size w W) (threeBlk A B _ rfl) ?_
  rintro W2 ⟨hA, hB, hR, hBw⟩
  have H2 : Hid (Arr .u64 76 W2 w.heap.size A ∧ Arr .u64 76 W2 (w.heap.size + 1) B ∧ Arr .u64 76 W2 (w.heap.size + 1 + 1) (List.replicate 13 0) ∧ Below w.heap.size w W2) := ⟨hA, hB, hR, hBw⟩
  clear hA hB hR hBw uA uB hs
  go_wp2
  go_loopw [5, 6] (fun c i wr => ∃ (Z : List Int) (cy : Int), i = .int .i64 Z.length ∧ c = .int .u64 cy ∧ Z.length ≤ 13 ∧ 0 ≤ cy ∧ cy ≤ 1 ∧ Hid (U32s Z ∧ val Z + 4294967296 ^ Z.length * cy = val (A.take Z.length) + val (B.take Z.length)) ∧ Hid (Arr .u64 76 wr w.heap.size (Z ++ A.drop Z.length) ∧ Arr .u64 76 wr (w.heap.size + 1) B ∧ Arr .u64 76 wr (w.heap.size + 1 + 1) (List.replicate 13 0) ∧ Below w.heap.size w wr)) (fun _ i _ => 13 - (intOf i).toNat)
  case atStart => exact ⟨[], 0, rfl, rfl, by simp, by omega, by omega, ⟨U32s.nil, by simp [val]⟩, H2.out⟩
  case round =>
    clear H2
    obtain ⟨Z, cy, rfl, rfl, hZl, hc0, hc1, HZ, HW⟩ := hrel
    by_cases hlt : Z.length < 13
    · obtain ⟨t, ht⟩ : ∃ t, Z.length = t := ⟨_, rfl⟩
      have h1 := HW.out.1.cell Z.length (by simp; omega)
      have h2 := HW.out.2.1.cell Z.length (by omega)
      have g1 := HW.out.1.frozen Z.length
      rw [getD_app_drop] at h1
      obtain ⟨x, hx⟩ : ∃ x, A.getD Z.length 0 = x := ⟨_, rfl⟩
      obtain ⟨y, hy⟩ : ∃ y, B.getD Z.length 0 = y := ⟨_, rfl⟩
      rw [hx] at h1; rw [hy] at h2
      have HX : Hid (A.getD Z.length 0 = x ∧ B.getD Z.length 0 = y ∧ Z.length = t) := ⟨hx, hy, ht⟩
      have ux : U32 x := hx ▸ HA.out.1.at _
      have uy : U32 y := hy ▸ HA.out.2.1.at _
      obtain ⟨ux1, ux2⟩ := ux
      obtain ⟨uy1, uy2⟩ := uy
      rw [ht] at h1 h2 g1 hlt
      have hand := Nt.and32 (x + y + cy) (by omega) (by omega)
      rw [ht]
      clear hx hy ht hZl
      go_wp2
      go_quiet (fail)
      go_wp2
      go_roundw
      case rel =>
        obtain ⟨hx, hy, ht⟩ := HX.out
        obtain ⟨hA, hB, hR, hBw⟩ := HW.out
        refine ⟨Z ++ [(x + y + cy) % 4294967296], (x + y + cy) / 4294967296, by simp [ht], rfl, by simp; omega, by omega, by omega, ⟨HZ.out.1.append (U32s.cons ⟨by omega, by omega⟩ U32s.nil), ?_⟩, ?_, ?_, ?_, ?_⟩
        · rw [Nt.val_snoc, List.length_append, List.length_singleton, Nt.val_take_succ _ _ (by omega), Nt.val_take_succ _ _ (by omega), hx, hy, Int.pow_succ]
          exact plus_step _ cy x y _ _ _ _ _ HZ.out.2 (by omega)
        · have h := Arr.set (w := wr.drewN nq) hA Z.length ((x + y + cy) % 4294967296)
          rw [set_app_drop _ _ _ (by omega), ht] at h
          exact h
        · exact (Upd.set (wr.drewN nq) w.heap.size t _).arr (xs := B) hB (by omega)
        · exact (Upd.set (wr.drewN nq) w.heap.size t _).arr (xs := List.replicate 13 0) hR (by omega)
        · exact Below.setCell (w := wr.drewN nq) (p := ⟨w.heap.size, t, none⟩) (hBw.trans ⟨rfl, rfl, rfl, Nat.le_refl _, fun _ _ => rfl⟩) (Nat.le_refl _) _
      case measure => simp [intOf]; omega
    · have h13 : Z.length = 13 := by omega
      have HL : Hid (U32s Z ∧ Z.length = 13 ∧ val Z = val A + val B) := by
        refine ⟨HZ.out.1, h13, ?_⟩
        have h := HZ.out.2
        rw [h13, List.take_of_length_le (by omega), List.take_of_length_le (by omega)] at h
        have h0 := val_nonneg HZ.out.1
        have h3 := HA.out.2.2
        generalize (4294967296 : Int) ^ 13 = P at h h3
        rcases (show cy = 0 ∨ cy = 1 by omega) with rfl | rfl
        · omega
        · omega
      obtain ⟨hA, hB, hR, hBw⟩ := HW.out
      rw [h13, List.drop_eq_nil_of_le (by omega), List.append_nil] at hA
      have hA' := hA.blk
      have hlen : (Z.map (Value.int .u64)).length = 13 := by simp [h13]
      have hsz : (Try.prog.info? 76).map (·.size) = some (Z.map (Value.int .u64)).length := by rw [hlen]; exact Try.sizeDg
      have hone := ints_one .u64 Z
      obtain ⟨cs, hcs⟩ : ∃ cs, Z.map (Value.int .u64) = cs := ⟨_, rfl⟩
      rw [hcs] at hA' hlen hsz hone
      have HC : Hid (Z.map (Value.int .u64) = cs) := hcs
      have hZb := hR.blk
      have HF : Hid (Blk 76 (wr.setCells (w.heap.size + 1 + 1) 0 cs) (w.heap.size + 1 + 1) cs ∧ Below w.heap.size w (wr.setCells (w.heap.size + 1 + 1) 0 cs)) := ⟨hZb.fill cs (by simp [hlen]), (Upd.setCells cs 0 wr).below hBw hBw.size (by omega)⟩
      have hth : wr.there (w.heap.size + 1 + 1) 0 cs.toArray.size := hZb.there 0 _ (by simp [hlen])
      have HQ : Hid (wr.rangeAt w.heap.size 0 cs ∧ wr.there (w.heap.size + 1 + 1) 0 cs.toArray.size) := ⟨hA'.whole, hth⟩
      have HS : Hid ((Try.prog.info? 76).map (·.size) = some cs.length) := hsz
      have HO : Hid (cs.toArray.all (·.oneCell') = true) := hone
      clear hA hB hR hBw hA' hlen hsz hone hZb hth hcs HW HZ hZl hlt
      rw [h13]
      clear h13
      go_wp2_with (first
        | (refine wpList_load_mid rfl _ _ rfl w.heap.size 0 rfl cs _ HQ.out.1 Try.underlying76 rfl HS.out ?_)
        | (refine wpList_store_mid rfl _ _ _ rfl (w.heap.size + 1 + 1) 0 cs.toArray rfl rfl HQ.out.2 (by simpa using HS.out) HO.out ?_))
      exact bodyPost_ret (v := .agg cs.toArray) (results_blk (b := w.heap.size + 1 + 1) (cs := cs) rfl rfl HF.out.1 Try.underlying76 rfl HS.out) rfl ⟨Z, by rw [HC.out], HL.out.1, HL.out.2.1, HL.out.2.2, HF.out.2⟩
end Go.Proofs.Yteagdgbcfbkfbaa
/-
  The reference's digits: minus.
-/
namespace Go.Proofs.Yteagdgbcfbkfbaa
open Go.RowKit
set_option maxRecDepth 20000
theorem minus_step (P cy q x y z cn vZ vA vB : Int) (h : vZ + q * vB = vA + P * cy) (e : z + q * y + cy = x + 4294967296 * cn) : vZ + P * z + q * (vB + P * y) = vA + P * x + P * 4294967296 * cn := by
  have h2 : P * (z + q * y + cy) = P * (x + 4294967296 * cn) := by rw [e]
  rw [Int.mul_add, Int.mul_add, Int.mul_add, ← Int.mul_assoc P 4294967296 cn] at h2
  rw [Int.mul_add, show q * (P * y) = P * (q * y) by rw [← Int.mul_assoc, Int.mul_comm q P, Int.mul_assoc]]
  omega
theorem minus_end (P z a b cy : Int) (h : z + b = a + P * cy) (hz : z < P) (hb : b ≤ a) (hc : 0 ≤ cy) (hP : 0 ≤ P) : z = a - b := by
  have h0 : cy = 0 := by
    apply Decidable.byContradiction; intro hn
    have h1 : P * 1 ≤ P * cy := Int.mul_le_mul_of_nonneg_left (by omega) hP
    omega
  subst h0; omega
set_option maxHeartbeats 2000000 in
theorem minus_any {w : World} (A B : List Int) (uA : U32s A) (uB : U32s B) (lA : A.length = 13) (lB : B.length = 13) (q : Int) (uq : U32 q) (hs : q * val B ≤ val A) :
    Calls Try.prog 106 #[dgA A, dgA B, .int .u64 q] w fun e w' => ∃ Z, e = .returned (dgA Z) ∧ U32s Z ∧ Z.length = 13 ∧ val Z = val A - q * val B ∧ Below w.heap.size w w' := by
  have HA : Hid (U32s A ∧ U32s B ∧ q * val B ≤ val A) := ⟨uA, uB, hs⟩
  obtain ⟨uq1, uq2⟩ := uq
  unfold dgA
  go_enter Try.func106, Try.ntmps106
  go_upto_region 1 with (first
    | refine wpList_boxR rfl 76 (.tmp 0) rfl (A.map (Value.int .u64)).toArray rfl ?_
    | refine wpList_boxR rfl 76 (.tmp 1) rfl (B.map (Value.int .u64)).toArray rfl ?_)
  refine wp_gen (fun W => Arr .u64 76 W w.heap.size A ∧ Arr .u64 76 W (w.heap.size + 1) B ∧ Arr .u64 76 W (w.heap.size + 1 + 1) (List.replicate 13 0) ∧ Below w.heap.size w W) (threeBlk A B _ rfl) ?_
  rintro W2 ⟨hA, hB, hR, hBw⟩
  have H2 : Hid (Arr .u64 76 W2 w.heap.size A ∧ Arr .u64 76 W2 (w.heap.size + 1) B ∧ Arr .u64 76 W2 (w.heap.size + 1 + 1) (List.replicate 13 0) ∧ Below w.heap.size w W2) := ⟨hA, hB, hR, hBw⟩
  clear hA hB hR hBw uA uB hs
  go_wp2
  go_loopw [7, 8] (fun c i wr => ∃ (Z : List Int) (cy : Int), i = .int .i64 Z.length ∧ c = .int .u64 cy ∧ Z.length ≤ 13 ∧ 0 ≤ cy ∧ cy < 4294967296 ∧ Hid (U32s Z ∧ val Z + q * val (B.take Z.length) = val (A.take Z.length) + 4294967296 ^ Z.length * cy) ∧ Hid (Arr .u64 76 wr w.heap.size (Z ++ A.drop Z.length) ∧ Arr .u64 76 wr (w.heap.size + 1) B ∧ Arr .u64 76 wr (w.heap.size + 1 + 1) (List.replicate 13 0) ∧ Below w.heap.size w wr)) (fun _ i _ => 13 - (intOf i).toNat)
  case atStart => exact ⟨[], 0, rfl, rfl, by simp, by omega, by omega, ⟨U32s.nil, by simp [val]⟩, H2.out⟩
  case round =>
    clear H2
    obtain ⟨Z, cy, rfl, rfl, hZl, hc0, hc1, HZ, HW⟩ := hrel
    by_cases hlt : Z.length < 13
    · obtain ⟨t, ht⟩ : ∃ t, Z.length = t := ⟨_, rfl⟩
      have h1 := HW.out.1.cell Z.length (by simp; omega)
      have h2 := HW.out.2.1.cell Z.length (by omega)
      have g1 := HW.out.1.frozen Z.length
      rw [getD_app_drop] at h1
      obtain ⟨x, hx⟩ : ∃ x, A.getD Z.length 0 = x := ⟨_, rfl⟩
      obtain ⟨y, hy⟩ : ∃ y, B.getD Z.length 0 = y := ⟨_, rfl⟩
      rw [hx] at h1; rw [hy] at h2
      have HX : Hid (A.getD Z.length 0 = x ∧ B.getD Z.length 0 = y ∧ Z.length = t) := ⟨hx, hy, ht⟩
      have ux : U32 x := hx ▸ HA.out.1.at _
      have uy : U32 y := hy ▸ HA.out.2.1.at _
      obtain ⟨ux1, ux2⟩ := ux
      obtain ⟨uy1, uy2⟩ := uy
      rw [ht] at h1 h2 g1 hlt
      have hp0 : 0 ≤ q * y := Int.mul_nonneg uq1 uy1
      have hp1 : q * y ≤ 4294967295 * 4294967295 := Int.mul_le_mul (by omega) (by omega) uy1 (by decide)
      have hand := Nt.and32 (q * y + cy) (by omega) (by omega)
      rw [ht]
      clear hx hy ht hZl
      have HU : Hid (∀ v, Upd wr (wr.setCell ⟨w.heap.size, t, none⟩ v) w.heap.size) := fun v => Upd.set _ _ _ _
      by_cases hxt : x < (q * y + cy) % 4294967296
      · go_wp2
        go_roundw
        case rel =>
          obtain ⟨hx, hy, ht⟩ := HX.out
          obtain ⟨hA, hB, hR, hBw⟩ := HW.out
          refine ⟨Z ++ [x + 4294967296 - (q * y + cy) % 4294967296], (q * y + cy) / 4294967296 + 1, by simp [ht], rfl, by simp; omega, by omega, by omega, ⟨HZ.out.1.append (U32s.cons ⟨by omega, by omega⟩ U32s.nil), ?_⟩, ?_, ?_, ?_, ?_⟩
          · rw [Nt.val_snoc, List.length_append, List.length_singleton, Nt.val_take_succ _ _ (by omega), Nt.val_take_succ _ _ (by omega), hx, hy, Int.pow_succ]
            exact minus_step _ cy q x y _ _ _ _ _ HZ.out.2 (by omega)
          · have h := (Arr.set hA Z.length (x + 4294967296)).set Z.length (x + 4294967296 - (q * y + cy) % 4294967296)
            rw [set_set_app_drop _ _ _ _ (by omega), ht] at h
            exact h
          · exact ((HU.out _).trans (Upd.set _ w.heap.size t _)).arr hB (by omega)
          · exact ((HU.out _).trans (Upd.set _ w.heap.size t _)).arr hR (by omega)
          · exact ((HU.out _).trans (Upd.set _ w.heap.size t _)).below hBw hBw.size (Nat.le_refl _)
        case measure => simp [intOf]; omega
      · go_wp2
        go_roundw
        case rel =>
          obtain ⟨hx, hy, ht⟩ := HX.out
          obtain ⟨hA, hB, hR, hBw⟩ := HW.out
          refine ⟨Z ++ [x - (q * y + cy) % 4294967296], (q * y + cy) / 4294967296, by simp [ht], rfl, by simp; omega, by omega, by omega, ⟨HZ.out.1.append (U32s.cons ⟨by omega, by omega⟩ U32s.nil), ?_⟩, ?_, ?_, ?_, ?_⟩
          · rw [Nt.val_snoc, List.length_append, List.length_singleton, Nt.val_take_succ _ _ (by omega), Nt.val_take_succ _ _ (by omega), hx, hy, Int.pow_succ]
            exact minus_step _ cy q x y _ _ _ _ _ HZ.out.2 (by omega)
          · have h := Arr.set hA Z.length (x - (q * y + cy) % 4294967296)
            rw [set_app_drop _ _ _ (by omega), ht] at h
            exact h
          · exact (HU.out _).arr hB (by omega)
          · exact (HU.out _).arr hR (by omega)
          · exact (HU.out _).below hBw hBw.size (Nat.le_refl _)
        case measure => simp [intOf]; omega
    · have h13 : Z.length = 13 := by omega
      have HL : Hid (U32s Z ∧ Z.length = 13 ∧ val Z = val A - q * val B) := by
        refine ⟨HZ.out.1, h13, ?_⟩
        have h := HZ.out.2
        rw [h13, List.take_of_length_le (by omega), List.take_of_length_le (by omega)] at h
        have h4 := val_lt HZ.out.1
        rw [h13] at h4
        exact minus_end _ _ _ _ cy h h4 HA.out.2.2 hc0 (by decide)
      obtain ⟨hA, hB, hR, hBw⟩ := HW.out
      rw [h13, List.drop_eq_nil_of_le (by omega), List.append_nil] at hA
      have hA' := hA.blk
      have hlen : (Z.map (Value.int .u64)).length = 13 := by simp [h13]
      have hsz : (Try.prog.info? 76).map (·.size) = some (Z.map (Value.int .u64)).length := by rw [hlen]; exact Try.sizeDg
      have hone := ints_one .u64 Z
      obtain ⟨cs, hcs⟩ : ∃ cs, Z.map (Value.int .u64) = cs := ⟨_, rfl⟩
      rw [hcs] at hA' hlen hsz hone
      have HC : Hid (Z.map (Value.int .u64) = cs) := hcs
      have hZb := hR.blk
      have HF : Hid (Blk 76 (wr.setCells (w.heap.size + 1 + 1) 0 cs) (w.heap.size + 1 + 1) cs ∧ Below w.heap.size w (wr.setCells (w.heap.size + 1 + 1) 0 cs)) := ⟨hZb.fill cs (by simp [hlen]), (Upd.setCells cs 0 wr).below hBw hBw.size (by omega)⟩
      have hth : wr.there (w.heap.size + 1 + 1) 0 cs.toArray.size := hZb.there 0 _ (by simp [hlen])
      have HQ : Hid (wr.rangeAt w.heap.size 0 cs ∧ wr.there (w.heap.size + 1 + 1) 0 cs.toArray.size) := ⟨hA'.whole, hth⟩
      have HS : Hid ((Try.prog.info? 76).map (·.size) = some cs.length) := hsz
      have HO : Hid (cs.toArray.all (·.oneCell') = true) := hone
      clear hA hB hR hBw hA' hlen hsz hone hZb hth hcs HW HZ hZl hlt
      rw [h13]
      clear h13
      go_wp2_with (first
        | (refine wpList_load_mid rfl _ _ rfl w.heap.size 0 rfl cs _ HQ.out.1 Try.underlying76 rfl HS.out ?_)
        | (refine wpList_store_mid rfl _ _ _ rfl (w.heap.size + 1 + 1) 0 cs.toArray rfl rfl HQ.out.2 (by simpa using HS.out) HO.out ?_))
      exact bodyPost_ret (v := .agg cs.toArray) (results_blk (b := w.heap.size + 1 + 1) (cs := cs) rfl rfl HF.out.1 Try.underlying76 rfl HS.out) rfl ⟨Z, by rw [HC.out], HL.out.1, HL.out.2.1, HL.out.2.2, HF.out.2⟩
end Go.Proofs.Yteagdgbcfbkfbaa
/-
  The reference's field: a call's own blocks one behind the other; add.
-/
namespace Go.Proofs.Yteagdgbcfbkfbaa
open Go.RowKit
set_option maxRecDepth 20000
/-- The blocks that a call laid, one behind the other. -/
def Bks (w W : World) (L : List (TypeId × List Value)) : Prop := Below w.heap.size w W ∧ ∀ i T cs, L[i]? = some (T, cs) → Blk T W (w.heap.size + i) cs
theorem Bks.nil (w : World) : Bks w w [] := ⟨Below.refl _ _, fun i T cs h => by simp at h⟩
theorem Bks.below {w W W' : World} {L : List (TypeId × List Value)} (h : Bks w W L) (hb : Below W.heap.size W W') : Bks w W' L :=
  ⟨below_via h.1 hb (Nat.le_refl _), fun i T cs e => below_blk hb (h.2 i T cs e).lt (h.2 i T cs e)⟩
theorem Bks.store {w W : World} {L : List (TypeId × List Value)} (h : Bks w W L) (i : Nat) (T : TypeId) (cs vs : List Value) (e : L[i]? = some (T, cs)) (hl : vs.length = cs.length) : Bks w (W.setCells (w.heap.size + i) 0 vs) (L.set i (T, vs)) := by
  have hU := Upd.setCells (b := w.heap.size + i) vs 0 W
  refine ⟨hU.below h.1 h.1.size (by omega), fun j T' cs' e' => ?_⟩
  rw [List.getElem?_set] at e'
  split at e'
  · rename_i hij
    subst hij
    split at e'
    · cases e'
      exact (h.2 _ _ _ e).fill vs hl
    · cases e'
  · exact hU.blk (h.2 j T' cs' e') (by omega)
theorem Bks.push {w W : World} {L : List (TypeId × List Value)} (h : Bks w W L) (hs : W.heap.size = w.heap.size + L.length) (T : TypeId) (cs : List Value) : Bks w (W.alloc (.cells cs.toArray T)) (L ++ [(T, cs)]) ∧ (W.alloc (.cells cs.toArray T)).heap.size = w.heap.size + (L ++ [(T, cs)]).length := by
  refine ⟨⟨h.1.alloc (by omega) _, fun i T' cs' e => ?_⟩, by simp [hs]; omega⟩
  rcases Nat.lt_or_ge i L.length with hi | hi
  · rw [List.getElem?_append_left hi] at e
    exact (h.2 i T' cs' e).alloc _
  · rw [List.getElem?_append_right hi] at e
    rcases Nat.eq_zero_or_pos (i - L.length) with h0 | h0
    · rw [h0] at e
      simp at e
      obtain ⟨rfl, rfl⟩ := e
      have := Blk.new T W cs
      rw [hs, show L.length = i by omega] at this
      exact this
    · rw [List.getElem?_eq_none (by simp; omega)] at e
      cases e
/-- The reference's field of a prime, as cells: how many digits, and the digits. -/
def fdC (n : Nat) (P : List Int) : List Value := Value.int .i64 n :: P.map (Value.int .u64)
def dgC (A : List Int) : List Value := A.map (Value.int .u64)
theorem dgC_len (A : List Int) : (dgC A).length = A.length := by simp [dgC]
def z13 : List Value := [.int .u64 0, .int .u64 0, .int .u64 0, .int .u64 0, .int .u64 0, .int .u64 0, .int .u64 0, .int .u64 0, .int .u64 0, .int .u64 0, .int .u64 0, .int .u64 0, .int .u64 0]
theorem dgC_one (A : List Int) : (dgC A).toArray.all (·.oneCell') = true := ints_one .u64 A
theorem dgC_size {A : List Int} (h : A.length = 13) : (Try.prog.info? 76).map (·.size) = some (dgC A).length := by rw [dgC_len, h]; exact Try.sizeDg
theorem dgC_size2 {A : List Int} (h : A.length = 13) : (Try.prog.info? 76).map (·.size) = some (dgC A).toArray.size := by rw [List.size_toArray]; exact dgC_size h
/-- A number below 2^416, in thirteen digits. -/
def Dg (A : List Int) : Prop := U32s A ∧ A.length = 13
theorem Bks.all {w W : World} {L : List (TypeId × List Value)} (h : Bks w W L) (i : Nat) (T : TypeId) (cs : List Value) (e : L[i]? = some (T, cs)) : W.rangeAt (w.heap.size + i) 0 cs := (h.2 i T cs e).whole
theorem Bks.there {w W : World} {L : List (TypeId × List Value)} (h : Bks w W L) (i : Nat) (T : TypeId) (cs : List Value) (e : L[i]? = some (T, cs)) (n : Nat) (hn : n ≤ cs.length) : W.there (w.heap.size + i) 0 n := (h.2 i T cs e).there 0 n (by omega)
theorem Bks.pr {w W : World} {L : List (TypeId × List Value)} (h : Bks w W L) (n : Nat) (P : List Int) (e : L[0]? = some (78, fdC n P)) : W.rangeAt w.heap.size 1 (dgC P) := (h.2 0 _ _ e).range 1 (dgC P) (by simp only [fdC, dgC, List.drop_succ_cons, List.drop_zero]; exact List.take_of_length_le (Nat.le_refl _))
end Go.Proofs.Yteagdgbcfbkfbaa
/-
  The reference's field: add.
-/
namespace Go.Proofs.Yteagdgbcfbkfbaa
open Go.RowKit
set_option maxRecDepth 20000
theorem five {w : World} (c0 c1 c2 c3 c4 : List Value) (T0 T1 T2 T3 T4 : TypeId) : Bks w (((((w.alloc (.cells c0.toArray T0)).alloc (.cells c1.toArray T1)).alloc (.cells c2.toArray T2)).alloc (.cells c3.toArray T3)).alloc (.cells c4.toArray T4)) [(T0, c0), (T1, c1), (T2, c2), (T3, c3), (T4, c4)] := by
  have h0 := (Bks.nil w).push (by simp) T0 c0
  have h1 := h0.1.push h0.2 T1 c1
  have h2 := h1.1.push h1.2 T2 c2
  have h3 := h2.1.push h2.2 T3 c3
  exact (h3.1.push h3.2 T4 c4).1
theorem four {w : World} (c0 c1 c2 c3 : List Value) (T0 T1 T2 T3 : TypeId) : Bks w ((((w.alloc (.cells c0.toArray T0)).alloc (.cells c1.toArray T1)).alloc (.cells c2.toArray T2)).alloc (.cells c3.toArray T3)) [(T0, c0), (T1, c1), (T2, c2), (T3, c3)] := by
  have h0 := (Bks.nil w).push (by simp) T0 c0
  have h1 := h0.1.push h0.2 T1 c1
  have h2 := h1.1.push h1.2 T2 c2
  exact (h2.1.push h2.2 T3 c3).1
set_option maxHeartbeats 2000000 in
theorem radd_any {w : World} (n : Nat) (P A B : List Int) (dP : Dg P) (dA : Dg A) (dB : Dg B) (hP : val P < 4294967296 ^ 12) (hA : val A < val P) (hB : val B < val P) :
    Calls Try.prog 77 #[.agg (fdC n P).toArray, dgA A, dgA B] w fun e w' => ∃ Z, e = .returned (dgA Z) ∧ Dg Z ∧ val Z = (val A + val B) % val P ∧ Below w.heap.size w w' := by
  have HA : Hid (Dg P ∧ Dg A ∧ Dg B ∧ val P < 4294967296 ^ 12 ∧ val A < val P ∧ val B < val P) := ⟨dP, dA, dB, hP, hA, hB⟩
  clear dP dA dB hP hA hB
  go_enter Try.func77, Try.ntmps77
  go_upto_region 1 with (first
    | refine wpList_boxR rfl 78 (.tmp 0) rfl (fdC n P).toArray rfl ?_
    | refine wpList_boxR rfl 76 (.tmp 1) rfl (dgC A).toArray rfl ?_
    | refine wpList_boxR rfl 76 (.tmp 2) rfl (dgC B).toArray rfl ?_)
  refine wp_gen (fun W => Bks w W [(78, fdC n P), (76, dgC A), (76, dgC B), (76, z13)]) (four (fdC n P) (dgC A) (dgC B) z13 _ _ _ _) ?_
  intro W2 hW2
  have H2 : Hid (Bks w W2 [(78, fdC n P), (76, dgC A), (76, dgC B), (76, z13)]) := hW2
  clear hW2
  go_wp2_with (first
    | (refine wpList_load_mid rfl 76 (.tmp 4) rfl (w.heap.size + 1) 0 rfl (dgC A) _ (H2.out.all 1 _ _ rfl) Try.underlying76 rfl (dgC_size HA.out.2.1.2) ?_)
    | (refine wpList_load_mid rfl 76 (.tmp 5) rfl (w.heap.size + 1 + 1) 0 rfl (dgC B) _ (H2.out.all 2 _ _ rfl) Try.underlying76 rfl (dgC_size HA.out.2.2.1.2) ?_))
  refine (plus_any A B HA.out.2.1.1 HA.out.2.2.1.1 HA.out.2.1.2 HA.out.2.2.1.2 (by
    have h1 := HA.out.2.2.2
    have h2 : (4294967296 : Int) ^ 13 = 4294967296 ^ 12 * 4294967296 := rfl
    rw [h2]; generalize (4294967296 : Int) ^ 12 = M at h1
    have := val_nonneg HA.out.1.1
    omega)).mono ?_
  rintro e w3 ⟨S, rfl, uS, lS, vS, hb3⟩
  have HS : Hid (Dg S ∧ val S = val A + val B) := ⟨⟨uS, lS⟩, vS⟩
  have H3 : Hid (Bks w w3 [(78, fdC n P), (76, dgC A), (76, dgC B), (76, z13)]) := H2.out.below hb3
  clear uS lS vS hb3 H2
  have Hth : Hid ((w3.alloc (.cells z13.toArray 76)).there w3.heap.size 0 (dgC S).toArray.size) := (Blk.new 76 w3 z13).there 0 _ (by simp [dgC_len, HS.out.1.2, z13])
  go_upto_region 2 with (refine wpList_store_mid rfl _ _ _ rfl w3.heap.size 0 (dgC S).toArray rfl rfl Hth.out (dgC_size2 HS.out.1.2) (dgC_one S) ?_)
  refine wp_gen (fun W => Below w3.heap.size w3 W ∧ Blk 76 W w3.heap.size (dgC S)) ⟨(Upd.setCells (b := w3.heap.size) (dgC S) 0 (w3.alloc (.cells z13.toArray 76))).below (al1 _) (al1 _).size (Nat.le_refl _), (Blk.new 76 w3 z13).fill (dgC S) (by simp [dgC_len, HS.out.1.2, z13])⟩ ?_
  rintro W4 ⟨hb4, hB4⟩
  have H4 : Hid (Below w3.heap.size w3 W4 ∧ Blk 76 W4 w3.heap.size (dgC S)) := ⟨hb4, hB4⟩
  clear hb4 hB4 Hth
  go_wp2_with (first
    | (refine wpList_load_mid rfl 76 (.tmp 7) rfl w3.heap.size 0 rfl (dgC S) _ H4.out.2.whole Try.underlying76 rfl (dgC_size HS.out.1.2) ?_)
    | (refine wpList_load_mid rfl 76 (.tmp 12) rfl w.heap.size 1 rfl (dgC P) _ ((H3.out.below H4.out.1).pr n P rfl) Try.underlying76 rfl (dgC_size HA.out.1.2) ?_))
  refine (less_any S P HS.out.1.1 HA.out.1.1 HS.out.1.2 HA.out.1.2).mono ?_
  rintro e w5 ⟨rfl, hb5⟩
  have H5 : Hid (Below w3.heap.size w3 w5 ∧ Blk 76 w5 w3.heap.size (dgC S)) := ⟨below_via H4.out.1 hb5 (Nat.le_refl _), below_blk hb5 H4.out.2.lt H4.out.2⟩
  clear hb5 H4
  by_cases hlt : val S < val P
  · have dl : decide (val S < val P) = true := by simpa using hlt
    rw [dl]
    have HV : Hid (val S = (val A + val B) % val P) := by
      show _ = _; rw [← HS.out.2, Int.emod_eq_of_lt (val_nonneg HS.out.1.1) hlt]
    clear hlt dl
    go_wp2_with (first
      | (refine wpList_load_mid rfl 76 (.tmp 7) rfl w3.heap.size 0 rfl (dgC S) _ H5.out.2.whole Try.underlying76 rfl (dgC_size HS.out.1.2) ?_)
      | (refine wpList_store_mid rfl _ _ _ rfl (w.heap.size + 1 + 1 + 1) 0 (dgC S).toArray rfl rfl ((H3.out.below H5.out.1).there 3 _ z13 rfl _ (by simp [dgC_len, HS.out.1.2, z13])) (dgC_size2 HS.out.1.2) (dgC_one S) ?_))
    have hN := (H3.out.below H5.out.1).store 3 _ z13 (dgC S) rfl (by simp [dgC_len, HS.out.1.2, z13])
    exact bodyPost_ret (v := .agg (dgC S).toArray) (results_blk (b := w.heap.size + 1 + 1 + 1) (cs := dgC S) rfl rfl (hN.2 3 _ _ rfl) Try.underlying76 rfl (dgC_size HS.out.1.2)) rfl ⟨S, rfl, HS.out.1, HV.out, hN.1⟩
  · have dl : decide (val S < val P) = false := by simpa using hlt
    rw [dl]
    have HM : Hid (1 * val P ≤ val S ∧ val S - 1 * val P = (val A + val B) % val P) := by
      have h1 := HA.out.2.2.2.2
      refine ⟨by omega, ?_⟩
      have h2 := val_nonneg HA.out.1.1
      rw [← HS.out.2, Int.one_mul, ← Int.sub_emod_right, Int.emod_eq_of_lt (by omega) (by rw [HS.out.2]; omega)]
    clear hlt dl
    go_wp2_with (first
      | (refine wpList_load_mid rfl 76 (.tmp 7) rfl w3.heap.size 0 rfl (dgC S) _ H5.out.2.whole Try.underlying76 rfl (dgC_size HS.out.1.2) ?_)
      | (refine wpList_load_mid rfl 76 (.tmp 17) rfl w.heap.size 1 rfl (dgC P) _ ((H3.out.below H5.out.1).pr n P rfl) Try.underlying76 rfl (dgC_size HA.out.1.2) ?_))
    refine (minus_any S P HS.out.1.1 HA.out.1.1 HS.out.1.2 HA.out.1.2 1 ⟨by decide, by decide⟩ HM.out.1).mono ?_
    rintro e w6 ⟨Z, rfl, uZ, lZ, vZ, hb6⟩
    have HZ : Hid (Dg Z ∧ val Z = (val A + val B) % val P) := ⟨⟨uZ, lZ⟩, by rw [vZ, HM.out.2]⟩
    have H6 : Hid (Below w3.heap.size w3 w6 ∧ Blk 76 w6 w3.heap.size (dgC S)) := ⟨below_via H5.out.1 hb6 (Nat.le_refl _), below_blk hb6 H5.out.2.lt H5.out.2⟩
    clear hb6 H5 uZ lZ vZ
    go_upto_region 4 with (refine wpList_store_mid rfl _ _ _ rfl w3.heap.size 0 (dgC Z).toArray rfl rfl (H6.out.2.there 0 _ (by simp [dgC_len, HS.out.1.2, HZ.out.1.2])) (dgC_size2 HZ.out.1.2) (dgC_one Z) ?_)
    refine wp_gen (fun W => Below w3.heap.size w3 W ∧ Blk 76 W w3.heap.size (dgC Z)) ⟨(Upd.setCells (b := w3.heap.size) (dgC Z) 0 w6).below H6.out.1 H6.out.1.size (Nat.le_refl _), H6.out.2.fill (dgC Z) (by simp [dgC_len, HS.out.1.2, HZ.out.1.2])⟩ ?_
    rintro W7 ⟨hb7, hB7⟩
    have H7 : Hid (Below w3.heap.size w3 W7 ∧ Blk 76 W7 w3.heap.size (dgC Z)) := ⟨hb7, hB7⟩
    clear hb7 hB7 H6
    go_wp2_with (first
      | (refine wpList_load_mid rfl 76 (.tmp 7) rfl w3.heap.size 0 rfl (dgC Z) _ H7.out.2.whole Try.underlying76 rfl (dgC_size HZ.out.1.2) ?_)
      | (refine wpList_store_mid rfl _ _ _ rfl (w.heap.size + 1 + 1 + 1) 0 (dgC Z).toArray rfl rfl ((H3.out.below H7.out.1).there 3 _ z13 rfl _ (by simp [dgC_len, HZ.out.1.2, z13])) (dgC_size2 HZ.out.1.2) (dgC_one Z) ?_))
    have hN := (H3.out.below H7.out.1).store 3 _ z13 (dgC Z) rfl (by simp [dgC_len, HZ.out.1.2, z13])
    exact bodyPost_ret (v := .agg (dgC Z).toArray) (results_blk (b := w.heap.size + 1 + 1 + 1) (cs := dgC Z) rfl rfl (hN.2 3 _ _ rfl) Try.underlying76 rfl (dgC_size HZ.out.1.2)) rfl ⟨Z, rfl, HZ.out.1, HZ.out.2, hN.1⟩
end Go.Proofs.Yteagdgbcfbkfbaa
/-
  The reference's field: sub.
-/
namespace Go.Proofs.Yteagdgbcfbkfbaa
open Go.RowKit
set_option maxRecDepth 20000
set_option maxHeartbeats 2000000 in
theorem rsub_any {w : World} (n : Nat) (P A B : List Int) (dP : Dg P) (dA : Dg A) (dB : Dg B) (hP : val P < 4294967296 ^ 12) (hA : val A < val P) (hB : val B < val P) :
    Calls Try.prog 75 #[.agg (fdC n P).toArray, dgA A, dgA B] w fun e w' => ∃ Z, e = .returned (dgA Z) ∧ Dg Z ∧ val Z = (val A - val B) % val P ∧ Below w.heap.size w w' := by
  have HA : Hid (Dg P ∧ Dg A ∧ Dg B ∧ val P < 4294967296 ^ 12 ∧ val A < val P ∧ val B < val P) := ⟨dP, dA, dB, hP, hA, hB⟩
  clear dP dA dB hP hA hB
  go_enter Try.func75, Try.ntmps75
  go_upto_region 1 with (first
    | refine wpList_boxR rfl 78 (.tmp 0) rfl (fdC n P).toArray rfl ?_
    | refine wpList_boxR rfl 76 (.tmp 1) rfl (dgC A).toArray rfl ?_
    | refine wpList_boxR rfl 76 (.tmp 2) rfl (dgC B).toArray rfl ?_)
  refine wp_gen (fun W => Bks w W [(78, fdC n P), (76, dgC A), (76, dgC B), (76, z13)]) (four (fdC n P) (dgC A) (dgC B) z13 _ _ _ _) ?_
  intro W2 hW2
  have H2 : Hid (Bks w W2 [(78, fdC n P), (76, dgC A), (76, dgC B), (76, z13)]) := hW2
  clear hW2
  go_wp2_with (first
    | (refine wpList_load_mid rfl 76 (.tmp 4) rfl (w.heap.size + 1) 0 rfl (dgC A) _ (H2.out.all 1 _ _ rfl) Try.underlying76 rfl (dgC_size HA.out.2.1.2) ?_)
    | (refine wpList_load_mid rfl 76 (.tmp 5) rfl (w.heap.size + 1 + 1) 0 rfl (dgC B) _ (H2.out.all 2 _ _ rfl) Try.underlying76 rfl (dgC_size HA.out.2.2.1.2) ?_))
  refine (less_any A B HA.out.2.1.1 HA.out.2.2.1.1 HA.out.2.1.2 HA.out.2.2.1.2).mono ?_
  rintro e w3 ⟨rfl, hb3⟩
  have H3 : Hid (Bks w w3 [(78, fdC n P), (76, dgC A), (76, dgC B), (76, z13)]) := H2.out.below hb3
  clear hb3 H2
  by_cases hlt : val A < val B
  · have dl : decide (val A < val B) = true := by simpa using hlt
    rw [dl]
    have HV : Hid (val A < val B) := hlt
    clear hlt dl
    go_wp2_with (first
      | (refine wpList_load_mid rfl 76 (.tmp 4) rfl (w.heap.size + 1) 0 rfl (dgC A) _ (H3.out.all 1 _ _ rfl) Try.underlying76 rfl (dgC_size HA.out.2.1.2) ?_)
      | (refine wpList_load_mid rfl 76 (.tmp 11) rfl (w.heap.size) 1 rfl (dgC P) _ (H3.out.pr n P rfl) Try.underlying76 rfl (dgC_size HA.out.1.2) ?_))
    refine (plus_any A P HA.out.2.1.1 HA.out.1.1 HA.out.2.1.2 HA.out.1.2 (by
      have h1 := HA.out.2.2.2
      have h2 : (4294967296 : Int) ^ 13 = 4294967296 ^ 12 * 4294967296 := rfl
      rw [h2]; generalize (4294967296 : Int) ^ 12 = M at h1
      have := val_nonneg HA.out.1.1
      omega)).mono ?_
    rintro e w4 ⟨S, rfl, uS, lS, vS, hb4⟩
    have HS : Hid (Dg S ∧ val S = val A + val P) := ⟨⟨uS, lS⟩, vS⟩
    have H4 : Hid (Bks w w4 [(78, fdC n P), (76, dgC A), (76, dgC B), (76, z13)]) := H3.out.below hb4
    clear uS lS vS hb4 H3
    go_upto_region 3 with (refine wpList_store_mid rfl _ _ _ rfl (w.heap.size + 1) 0 (dgC S).toArray rfl rfl (H4.out.there 1 _ (dgC A) rfl _ (by simp [dgC_len, HS.out.1.2, HA.out.2.1.2])) (dgC_size2 HS.out.1.2) (dgC_one S) ?_)
    refine wp_gen (fun W => Bks w W [(78, fdC n P), (76, dgC S), (76, dgC B), (76, z13)]) (H4.out.store 1 _ (dgC A) (dgC S) rfl (by simp [dgC_len, HS.out.1.2, HA.out.2.1.2])) ?_
    intro W5 hW5
    have H5 : Hid (Bks w W5 [(78, fdC n P), (76, dgC S), (76, dgC B), (76, z13)]) := hW5
    clear hW5 H4
    have HM : Hid (1 * val B ≤ val S ∧ val S - 1 * val B = (val A - val B) % val P) := by
      have h1 := HA.out.2.2.2.2
      have h2 := HS.out.2
      have h3 := HV.out
      have h4 := val_nonneg HA.out.2.1.1
      refine ⟨by omega, ?_⟩
      rw [h2, ← Int.add_emod_right, Int.emod_eq_of_lt (by omega) (by omega)]; omega
    go_wp2_with (first
      | (refine wpList_load_mid rfl 76 (.tmp 4) rfl (w.heap.size + 1) 0 rfl (dgC S) _ (H5.out.all 1 _ _ rfl) Try.underlying76 rfl (dgC_size HS.out.1.2) ?_)
      | (refine wpList_load_mid rfl 76 (.tmp 5) rfl (w.heap.size + 1 + 1) 0 rfl (dgC B) _ (H5.out.all 2 _ _ rfl) Try.underlying76 rfl (dgC_size HA.out.2.2.1.2) ?_))
    refine (minus_any S B HS.out.1.1 HA.out.2.2.1.1 HS.out.1.2 HA.out.2.2.1.2 1 ⟨by decide, by decide⟩ HM.out.1).mono ?_
    rintro e w6 ⟨Z, rfl, uZ, lZ, vZ, hb6⟩
    have HZ : Hid (Dg Z ∧ val Z = (val A - val B) % val P) := ⟨⟨uZ, lZ⟩, by rw [vZ]; exact HM.out.2⟩
    have H6 : Hid (Bks w w6 [(78, fdC n P), (76, dgC S), (76, dgC B), (76, z13)]) := H5.out.below hb6
    clear hb6 uZ lZ vZ
    go_wp2_with (refine wpList_store_mid rfl _ _ _ rfl (w.heap.size + 1 + 1 + 1) 0 (dgC Z).toArray rfl rfl (H6.out.there 3 _ z13 rfl _ (by simp [dgC_len, HZ.out.1.2, z13])) (dgC_size2 HZ.out.1.2) (dgC_one Z) ?_)
    have hN := H6.out.store 3 _ z13 (dgC Z) rfl (by simp [dgC_len, HZ.out.1.2, z13])
    exact bodyPost_ret (v := .agg (dgC Z).toArray) (results_blk (b := w.heap.size + 1 + 1 + 1) (cs := dgC Z) rfl rfl (hN.2 3 _ _ rfl) Try.underlying76 rfl (dgC_size HZ.out.1.2)) rfl ⟨Z, rfl, HZ.out.1, HZ.out.2, hN.1⟩
  · have dl : decide (val A < val B) = false := by simpa using hlt
    rw [dl]
    have HM : Hid (1 * val B ≤ val A ∧ val A - 1 * val B = (val A - val B) % val P) := by
      have h1 := HA.out.2.2.2.2
      have h4 := val_nonneg HA.out.2.2.1.1
      refine ⟨by omega, ?_⟩
      rw [Int.emod_eq_of_lt (by omega) (by omega)]; omega
    clear hlt dl
    go_wp2_with (first
      | (refine wpList_load_mid rfl 76 (.tmp 4) rfl (w.heap.size + 1) 0 rfl (dgC A) _ (H3.out.all 1 _ _ rfl) Try.underlying76 rfl (dgC_size HA.out.2.1.2) ?_)
      | (refine wpList_load_mid rfl 76 (.tmp 5) rfl (w.heap.size + 1 + 1) 0 rfl (dgC B) _ (H3.out.all 2 _ _ rfl) Try.underlying76 rfl (dgC_size HA.out.2.2.1.2) ?_))
    refine (minus_any A B HA.out.2.1.1 HA.out.2.2.1.1 HA.out.2.1.2 HA.out.2.2.1.2 1 ⟨by decide, by decide⟩ HM.out.1).mono ?_
    rintro e w6 ⟨Z, rfl, uZ, lZ, vZ, hb6⟩
    have HZ : Hid (Dg Z ∧ val Z = (val A - val B) % val P) := ⟨⟨uZ, lZ⟩, by rw [vZ]; exact HM.out.2⟩
    have H6 : Hid (Bks w w6 [(78, fdC n P), (76, dgC A), (76, dgC B), (76, z13)]) := H3.out.below hb6
    clear hb6 uZ lZ vZ
    go_wp2_with (refine wpList_store_mid rfl _ _ _ rfl (w.heap.size + 1 + 1 + 1) 0 (dgC Z).toArray rfl rfl (H6.out.there 3 _ z13 rfl _ (by simp [dgC_len, HZ.out.1.2, z13])) (dgC_size2 HZ.out.1.2) (dgC_one Z) ?_)
    have hN := H6.out.store 3 _ z13 (dgC Z) rfl (by simp [dgC_len, HZ.out.1.2, z13])
    exact bodyPost_ret (v := .agg (dgC Z).toArray) (results_blk (b := w.heap.size + 1 + 1 + 1) (cs := dgC Z) rfl rfl (hN.2 3 _ _ rfl) Try.underlying76 rfl (dgC_size HZ.out.1.2)) rfl ⟨Z, rfl, HZ.out.1, HZ.out.2, hN.1⟩
end Go.Proofs.Yteagdgbcfbkfbaa
