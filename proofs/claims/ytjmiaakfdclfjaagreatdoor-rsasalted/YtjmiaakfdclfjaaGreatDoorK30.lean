/-
  Digest: the reference's filled: the message filled up to whole blocks.
-/
import Derived.Test.YtjmiaakfdclfjaaGreatDoorK29
namespace Go.Proofs.YtjmiaakfdclfjaaGreatDoor.Sh
open Go.RowKit
set_option maxRecDepth 20000
theorem be_at (r m j : Nat) (hj : j < r) : (be r m).getD j 0 = ((m / 256 ^ (r - 1 - j) % 256 : Nat) : Int) := by
  induction r generalizing j with
  | zero => omega
  | succ r ih =>
    cases j with
    | zero => simp [be]
    | succ j =>
      have := ih j (by omega)
      rw [show r + 1 - 1 - (j + 1) = r - 1 - j by omega, ← this]
      simp [be]
theorem be_take (r m j : Nat) (hj : j < r) : (be r m).take (j + 1) = (be r m).take j ++ [((m / 256 ^ (r - 1 - j) % 256 : Nat) : Int)] := by
  rw [List.take_succ_eq_append_getElem (by rw [be_len]; exact hj)]
  have := be_at r m j hj
  rw [List.getD_eq_getElem?_getD, List.getElem?_eq_getElem (by rw [be_len]; exact hj)] at this
  simp only [Option.getD_some] at this
  rw [this]
theorem sh_byte (N p s : Nat) (hs : 8 * p = s) : (8 * (N : Int)) / 2 ^ s % 256 = ((N * 8 / 256 ^ p % 256 : Nat) : Int) := by
  have e : (256 : Nat) ^ p = 2 ^ s := by rw [← hs, Nat.pow_mul]
  rw [e, Int.natCast_emod, Int.natCast_ediv, Int.natCast_pow, Int.natCast_mul, Int.mul_comm]
  rfl
theorem sh_zero (N p : Nat) (hN : N ≤ 16777216) (hp : 8 ≤ p) : (0 : Int) = ((N * 8 / 256 ^ p % 256 : Nat) : Int) := by
  have : 256 ^ 8 ≤ 256 ^ p := Nat.pow_le_pow_right (by decide) hp
  rw [Nat.div_eq_of_lt (by omega)]; rfl
theorem new1 {w : World} {e : TypeId} (x : Int) : Sl .u8 (w.alloc (.cells #[.int .u8 x] e)) (.slice (some ⟨w.heap.size, 0, none⟩) 1 1) [x] := new_sl [x] (0, 0)
theorem row0 {w : World} : Row .u8 5 w.heap.size (w.alloc (.cells #[] 5)) (.slice (some ⟨w.heap.size, 0, none⟩) 0 0) [] := Row.arr (S := []) (Blk.new 5 w []) (Nat.le_refl _) (by decide)
theorem al2 {a w : World} {o : Obj} (h : Below a.heap.size a w) : Below a.heap.size a (w.alloc o) := h.alloc h.size o

set_option maxHeartbeats 2000000 in
theorem filled_64 {w : World} (v : Value) (X : List Int) (hX : Sl .u8 w v X) (hl : X.length ≤ 16777216) :
    Calls Tryz.prog 15 #[v, .int .i64 64] w fun e w' => ∃ r, e = .returned r ∧ Row .u8 5 w.heap.size w' r (X ++ fill X.length 64) ∧ Below w.heap.size w w' := by
  obtain ⟨a, cp, rfl, hcp⟩ : ∃ a c, v = .slice a X.length c ∧ X.length ≤ c := by obtain ⟨a, c, h, h', _⟩ := hX; exact ⟨a, c, h, h'⟩
  obtain ⟨N, hN⟩ : ∃ n, X.length = n := ⟨_, rfl⟩
  have HX : Hid (Sl .u8 w (.slice a N cp) X ∧ X.length = N) := ⟨by rw [← hN]; exact hX, hN⟩
  rw [hN] at hl hcp
  simp only [hN]
  obtain ⟨Z, hZ⟩ : ∃ z, 64 - 1 - (N + 8) % 64 = z := ⟨_, rfl⟩
  have hmod := Nat.mod_lt (N + 8) (show 0 < 64 by decide)
  have HF : Hid (fill N 64 = 128 :: (List.replicate Z 0 ++ be 8 (N * 8))) := by
    show fill N 64 = _
    unfold fill fillLen
    rw [show 64 - (N + 64 / 8) % 64 + 64 / 8 - 1 - 64 / 8 = Z by omega]
  have HZ : Hid (∀ z, z ≤ Z → (((N : Int) + 1 + z + 8) % 64 = 0 ↔ z = Z)) := fun z hz => by omega
  have hZ2 : Z < 64 := by omega
  clear hX hN hZ hmod
  go_enter Tryz.func15, Tryz.ntmps15
  go_wp2_with (first
    | (at_builtin; replace hr1 := hr1; refine wpList_ap rfl (.tmp 13) (.tmp 14) 22 22 rfl .u8 5 1 Tryz.und8 Tryz.info8 (by decide) w.heap.size _ _ rfl (hr1.alloc _) _ [128] rfl (src_sl Tryz.und8 (new1 128)) (by have := HX.out.2; simp; omega) (by have := hB1.size; simp at this ⊢; omega) ?_; intro v2 w2 hr2 hg2; have hB2 := hg2.below (hr1.alloc _) (by have := hB1.size; simp at this ⊢; omega); have HR2 : Hid (Row .u8 5 w.heap.size w2 v2 (X ++ [128]) ∧ Below w.heap.size w w2) := ⟨hr2, (al2 hB1).trans hB2⟩; clear hr2 hg2 hB2 hr1 hB1)
    | (at_builtin; refine wpList_ap rfl (.tmp 11) (.tmp 12) 22 22 rfl .u8 5 1 Tryz.und8 Tryz.info8 (by decide) w.heap.size _ _ rfl row0 _ X rfl (src_sl Tryz.und8 (below_sl (al1 _) HX.out.1)) (by have := HX.out.2; simp; omega) (by simp) ?_; intro v1 w1 hr1 hg1; have hB1 : Below w.heap.size w w1 := (al1 _).trans (hg1.below row0 (by simp)); clear hg1))
  go_loopw [6] (fun mv wr => ∃ z : Nat, z ≤ Z ∧ Row .u8 5 w.heap.size wr mv (X ++ 128 :: List.replicate z 0) ∧ Below w.heap.size w wr) (fun mv _ => 64 + N + 1 - lenOf mv)
  case atStart => exact ⟨0, by omega, HR2.out⟩
  case round =>
    obtain ⟨z, hz, hr, hBw⟩ := hrel
    obtain ⟨L, hL⟩ : ∃ l, (X ++ 128 :: List.replicate z (0 : Int)).length = l := ⟨_, rfl⟩
    have hL2 : L = N + 1 + z := by rw [← hL]; have := HX.out.2; simp; omega
    obtain ⟨av, cv, hv⟩ := hr.ne
    rw [hL] at hv
    subst hv
    have HR : Hid (Row .u8 5 w.heap.size wr (.slice av L cv) (X ++ 128 :: List.replicate z 0) ∧ Below w.heap.size w wr) := ⟨hr, hBw⟩
    have HL : Hid ((X ++ 128 :: List.replicate z (0 : Int)).length = L) := hL
    have hLs : L ≤ 16778000 := by omega
    have HL2 : Hid (L = N + 1 + z) := hL2
    have hzz := HZ.out z hz
    clear hr hBw hL hL2
    by_cases hlt : z < Z
    · have hne : ¬ ((L : Int) + 8) % 64 = 0 := by intro h; have := hzz.1 (by rw [← h, HL2.out]; congr 1 <;> omega); omega
      clear hzz
      go_wp2_with (at_builtin; refine wpList_ap rfl (.tmp 23) (.tmp 24) 22 22 rfl .u8 5 1 Tryz.und8 Tryz.info8 (by decide) w.heap.size _ _ rfl (HR.out.1.alloc _) _ [0] rfl (src_sl Tryz.und8 (new1 0)) (by rw [HL.out]; simp <;> omega) (by have := HR.out.2.size; simp <;> omega) ?_; intro v2 w2 hr2 hg2; have hB2 := hg2.below (HR.out.1.alloc _) (by have := HR.out.2.size; simp <;> omega); have HR2' : Hid (Row .u8 5 w.heap.size w2 v2 (X ++ 128 :: List.replicate z 0 ++ [0]) ∧ Below w.heap.size w w2) := ⟨hr2, (al2 HR.out.2).trans hB2⟩; clear hr2 hg2 hB2)
      go_roundw
      case rel =>
        refine ⟨z + 1, by omega, ?_, HR2'.out.2⟩
        have := HR2'.out.1
        rw [List.append_assoc, List.cons_append, ← List.replicate_succ'] at this; exact this
      case measure =>
        obtain ⟨a2, c2, h2⟩ := HR2'.out.1.ne
        rw [h2]
        have := HL.out
        have := HL2.out
        have := HX.out.2
        simp [lenOf] at *
        omega
    · obtain rfl : z = Z := by omega
      have he : ((L : Int) + 8) % 64 = 0 := by have := hzz.2 rfl; rw [← this, HL2.out]; congr 1 <;> omega
      clear hzz
      have HG : Hid (X ++ 128 :: List.replicate z (0 : Int) ++ be 8 (N * 8) = X ++ fill N 64) := by rw [HF.out, List.append_assoc, List.cons_append]; rfl
      obtain ⟨Y, hY⟩ : ∃ Y, X ++ 128 :: List.replicate z (0 : Int) = Y := ⟨_, rfl⟩
      rw [hY] at HR HL HG
      clear hY
      go_wp2_with fail
      clear he
      go_loopw [6, 7] (fun mv iv wr => ∃ j : Nat, j ≤ 8 ∧ iv = .int .i64 (8 - 1 - (j : Int)) ∧ Row .u8 5 w.heap.size wr mv (Y ++ (be 8 (N * 8)).take j) ∧ Below w.heap.size w wr) (fun _ iv _ => (intOf iv + 1).toNat)
      case atStart => exact ⟨0, by omega, rfl, by simpa using HR.out.1, HR.out.2⟩
      case round =>
        obtain ⟨j, hj, rfl, hr, hBw⟩ := hrel
        obtain ⟨L2, hL'⟩ : ∃ l, (Y ++ (be 8 (N * 8)).take j).length = l := ⟨_, rfl⟩
        have hLs2 : L2 ≤ 33554432 := by rw [← hL', List.length_append, List.length_take, be_len]; have := HL.out; omega
        obtain ⟨av2, cv2, hv⟩ := hr.ne
        rw [hL'] at hv
        subst hv
        have HR3 : Hid (Row .u8 5 w.heap.size wr (.slice av2 L2 cv2) (Y ++ (be 8 (N * 8)).take j) ∧ Below w.heap.size w wr ∧ (Y ++ (be 8 (N * 8)).take j).length = L2) := ⟨hr, hBw, hL'⟩
        clear hr hBw hL'
        by_cases hjc : j < 8
        · obtain ⟨p, hp⟩ : ∃ p : Nat, 8 - 1 - j = p := ⟨_, rfl⟩
          have hpI : (8 : Int) - 1 - (j : Int) = (p : Int) := by omega
          have hp0 : (0 : Int) ≤ (p : Int) := by omega
          have HT : Hid ((be 8 (N * 8)).take (j + 1) = (be 8 (N * 8)).take j ++ [((N * 8 / 256 ^ p % 256 : Nat) : Int)]) := by rw [be_take 8 _ j hjc, hp]; rfl
          obtain ⟨sh, hsh⟩ : ∃ s : Nat, 8 * p = s := ⟨_, rfl⟩
          have hshI : (8 : Int) * (p : Int) = (sh : Int) := by omega
          have HSH := sh_byte N p sh hsh
          have HS2 : Hid ((8 * (N : Int)) / 2 ^ sh % 256 = ((N * 8 / 256 ^ p % 256 : Nat) : Int)) := HSH
          have hsb : sh ≤ 127 := by omega
          have hp' : p < 8 := by omega
          have HP : Hid (8 - 1 - j = p) := hp
          have HSZ : Hid (8 ≤ p → (0 : Int) = ((N * 8 / 256 ^ p % 256 : Nat) : Int)) := fun h8 => sh_zero N p hl h8
          clear hsh HSH hp
          rw [hpI]
          by_cases hp8 : p < 8
          · have hp8I : (p : Int) < 8 := by omega
            have hsb2 : sh ≤ 56 := by omega
            go_wp2_with (at_builtin; refine wpList_ap rfl (.tmp 42) (.tmp 44) 22 22 rfl .u8 5 1 Tryz.und8 Tryz.info8 (by decide) w.heap.size _ _ rfl (HR3.out.1.alloc _) _ [8 * (N : Int) / 2 ^ sh % 256] rfl (src_sl Tryz.und8 (new1 (8 * (N : Int) / 2 ^ sh % 256))) (by rw [HR3.out.2.2]; simp <;> omega) (by have := HR3.out.2.1.size; simp <;> omega) ?_; intro v4 w4 hr4 hg4; have hB4 := hg4.below (HR3.out.1.alloc _) (by have := HR3.out.2.1.size; simp <;> omega); have HR4 : Hid (Row .u8 5 w.heap.size w4 v4 (Y ++ (be 8 (N * 8)).take j ++ [8 * (N : Int) / 2 ^ sh % 256]) ∧ Below w.heap.size w w4) := ⟨hr4, (al2 HR3.out.2.1).trans hB4⟩; clear hr4 hg4 hB4)
            go_roundw
            case rel =>
              refine ⟨j + 1, by omega, by congr 1; have := HP.out; omega, ?_, HR4.out.2⟩
              have := HR4.out.1
              rw [HS2.out, List.append_assoc, ← HT.out] at this; exact this
            case measure => simp [intOf] <;> omega
          · exfalso; omega
        · obtain rfl : j = 8 := by omega
          have HN : Hid (Row .u8 5 w.heap.size wr (.slice av2 L2 cv2) (X ++ fill N 64) ∧ Below w.heap.size w wr) := by
            have := HR3.out.1
            rw [List.take_of_length_le (by rw [be_len]; omega), HG.out] at this
            exact ⟨this, HR3.out.2.1⟩
          clear HR3
          go_wp2
          go_ret
          exact ⟨_, rfl, HN.out⟩

set_option maxHeartbeats 2000000 in
theorem filled_128 {w : World} (v : Value) (X : List Int) (hX : Sl .u8 w v X) (hl : X.length ≤ 16777216) :
    Calls Tryz.prog 15 #[v, .int .i64 128] w fun e w' => ∃ r, e = .returned r ∧ Row .u8 5 w.heap.size w' r (X ++ fill X.length 128) ∧ Below w.heap.size w w' := by
  obtain ⟨a, cp, rfl, hcp⟩ : ∃ a c, v = .slice a X.length c ∧ X.length ≤ c := by obtain ⟨a, c, h, h', _⟩ := hX; exact ⟨a, c, h, h'⟩
  obtain ⟨N, hN⟩ : ∃ n, X.length = n := ⟨_, rfl⟩
  have HX : Hid (Sl .u8 w (.slice a N cp) X ∧ X.length = N) := ⟨by rw [← hN]; exact hX, hN⟩
  rw [hN] at hl hcp
  simp only [hN]
  obtain ⟨Z, hZ⟩ : ∃ z, 128 - 1 - (N + 16) % 128 = z := ⟨_, rfl⟩
  have hmod := Nat.mod_lt (N + 16) (show 0 < 128 by decide)
  have HF : Hid (fill N 128 = 128 :: (List.replicate Z 0 ++ be 16 (N * 8))) := by
    show fill N 128 = _
    unfold fill fillLen
    rw [show 128 - (N + 128 / 8) % 128 + 128 / 8 - 1 - 128 / 8 = Z by omega]
  have HZ : Hid (∀ z, z ≤ Z → (((N : Int) + 1 + z + 16) % 128 = 0 ↔ z = Z)) := fun z hz => by omega
  have hZ2 : Z < 128 := by omega
  clear hX hN hZ hmod
  go_enter Tryz.func15, Tryz.ntmps15
  go_wp2_with (first
    | (at_builtin; replace hr1 := hr1; refine wpList_ap rfl (.tmp 13) (.tmp 14) 22 22 rfl .u8 5 1 Tryz.und8 Tryz.info8 (by decide) w.heap.size _ _ rfl (hr1.alloc _) _ [128] rfl (src_sl Tryz.und8 (new1 128)) (by have := HX.out.2; simp; omega) (by have := hB1.size; simp at this ⊢; omega) ?_; intro v2 w2 hr2 hg2; have hB2 := hg2.below (hr1.alloc _) (by have := hB1.size; simp at this ⊢; omega); have HR2 : Hid (Row .u8 5 w.heap.size w2 v2 (X ++ [128]) ∧ Below w.heap.size w w2) := ⟨hr2, (al2 hB1).trans hB2⟩; clear hr2 hg2 hB2 hr1 hB1)
    | (at_builtin; refine wpList_ap rfl (.tmp 11) (.tmp 12) 22 22 rfl .u8 5 1 Tryz.und8 Tryz.info8 (by decide) w.heap.size _ _ rfl row0 _ X rfl (src_sl Tryz.und8 (below_sl (al1 _) HX.out.1)) (by have := HX.out.2; simp; omega) (by simp) ?_; intro v1 w1 hr1 hg1; have hB1 : Below w.heap.size w w1 := (al1 _).trans (hg1.below row0 (by simp)); clear hg1))
  go_loopw [6] (fun mv wr => ∃ z : Nat, z ≤ Z ∧ Row .u8 5 w.heap.size wr mv (X ++ 128 :: List.replicate z 0) ∧ Below w.heap.size w wr) (fun mv _ => 128 + N + 1 - lenOf mv)
  case atStart => exact ⟨0, by omega, HR2.out⟩
  case round =>
    obtain ⟨z, hz, hr, hBw⟩ := hrel
    obtain ⟨L, hL⟩ : ∃ l, (X ++ 128 :: List.replicate z (0 : Int)).length = l := ⟨_, rfl⟩
    have hL2 : L = N + 1 + z := by rw [← hL]; have := HX.out.2; simp; omega
    obtain ⟨av, cv, hv⟩ := hr.ne
    rw [hL] at hv
    subst hv
    have HR : Hid (Row .u8 5 w.heap.size wr (.slice av L cv) (X ++ 128 :: List.replicate z 0) ∧ Below w.heap.size w wr) := ⟨hr, hBw⟩
    have HL : Hid ((X ++ 128 :: List.replicate z (0 : Int)).length = L) := hL
    have hLs : L ≤ 16778000 := by omega
    have HL2 : Hid (L = N + 1 + z) := hL2
    have hzz := HZ.out z hz
    clear hr hBw hL hL2
    by_cases hlt : z < Z
    · have hne : ¬ ((L : Int) + 16) % 128 = 0 := by intro h; have := hzz.1 (by rw [← h, HL2.out]; congr 1 <;> omega); omega
      clear hzz
      go_wp2_with (at_builtin; refine wpList_ap rfl (.tmp 23) (.tmp 24) 22 22 rfl .u8 5 1 Tryz.und8 Tryz.info8 (by decide) w.heap.size _ _ rfl (HR.out.1.alloc _) _ [0] rfl (src_sl Tryz.und8 (new1 0)) (by rw [HL.out]; simp <;> omega) (by have := HR.out.2.size; simp <;> omega) ?_; intro v2 w2 hr2 hg2; have hB2 := hg2.below (HR.out.1.alloc _) (by have := HR.out.2.size; simp <;> omega); have HR2' : Hid (Row .u8 5 w.heap.size w2 v2 (X ++ 128 :: List.replicate z 0 ++ [0]) ∧ Below w.heap.size w w2) := ⟨hr2, (al2 HR.out.2).trans hB2⟩; clear hr2 hg2 hB2)
      go_roundw
      case rel =>
        refine ⟨z + 1, by omega, ?_, HR2'.out.2⟩
        have := HR2'.out.1
        rw [List.append_assoc, List.cons_append, ← List.replicate_succ'] at this; exact this
      case measure =>
        obtain ⟨a2, c2, h2⟩ := HR2'.out.1.ne
        rw [h2]
        have := HL.out
        have := HL2.out
        have := HX.out.2
        simp [lenOf] at *
        omega
    · obtain rfl : z = Z := by omega
      have he : ((L : Int) + 16) % 128 = 0 := by have := hzz.2 rfl; rw [← this, HL2.out]; congr 1 <;> omega
      clear hzz
      have HG : Hid (X ++ 128 :: List.replicate z (0 : Int) ++ be 16 (N * 8) = X ++ fill N 128) := by rw [HF.out, List.append_assoc, List.cons_append]; rfl
      obtain ⟨Y, hY⟩ : ∃ Y, X ++ 128 :: List.replicate z (0 : Int) = Y := ⟨_, rfl⟩
      rw [hY] at HR HL HG
      clear hY
      go_wp2_with fail
      clear he
      go_loopw [6, 7] (fun mv iv wr => ∃ j : Nat, j ≤ 16 ∧ iv = .int .i64 (16 - 1 - (j : Int)) ∧ Row .u8 5 w.heap.size wr mv (Y ++ (be 16 (N * 8)).take j) ∧ Below w.heap.size w wr) (fun _ iv _ => (intOf iv + 1).toNat)
      case atStart => exact ⟨0, by omega, rfl, by simpa using HR.out.1, HR.out.2⟩
      case round =>
        obtain ⟨j, hj, rfl, hr, hBw⟩ := hrel
        obtain ⟨L2, hL'⟩ : ∃ l, (Y ++ (be 16 (N * 8)).take j).length = l := ⟨_, rfl⟩
        have hLs2 : L2 ≤ 33554432 := by rw [← hL', List.length_append, List.length_take, be_len]; have := HL.out; omega
        obtain ⟨av2, cv2, hv⟩ := hr.ne
        rw [hL'] at hv
        subst hv
        have HR3 : Hid (Row .u8 5 w.heap.size wr (.slice av2 L2 cv2) (Y ++ (be 16 (N * 8)).take j) ∧ Below w.heap.size w wr ∧ (Y ++ (be 16 (N * 8)).take j).length = L2) := ⟨hr, hBw, hL'⟩
        clear hr hBw hL'
        by_cases hjc : j < 16
        · obtain ⟨p, hp⟩ : ∃ p : Nat, 16 - 1 - j = p := ⟨_, rfl⟩
          have hpI : (16 : Int) - 1 - (j : Int) = (p : Int) := by omega
          have hp0 : (0 : Int) ≤ (p : Int) := by omega
          have HT : Hid ((be 16 (N * 8)).take (j + 1) = (be 16 (N * 8)).take j ++ [((N * 8 / 256 ^ p % 256 : Nat) : Int)]) := by rw [be_take 16 _ j hjc, hp]; rfl
          obtain ⟨sh, hsh⟩ : ∃ s : Nat, 8 * p = s := ⟨_, rfl⟩
          have hshI : (8 : Int) * (p : Int) = (sh : Int) := by omega
          have HSH := sh_byte N p sh hsh
          have HS2 : Hid ((8 * (N : Int)) / 2 ^ sh % 256 = ((N * 8 / 256 ^ p % 256 : Nat) : Int)) := HSH
          have hsb : sh ≤ 127 := by omega
          have hp' : p < 16 := by omega
          have HP : Hid (16 - 1 - j = p) := hp
          have HSZ : Hid (8 ≤ p → (0 : Int) = ((N * 8 / 256 ^ p % 256 : Nat) : Int)) := fun h8 => sh_zero N p hl h8
          clear hsh HSH hp
          rw [hpI]
          by_cases hp8 : p < 8
          · have hp8I : (p : Int) < 8 := by omega
            have hsb2 : sh ≤ 56 := by omega
            go_wp2_with (at_builtin; refine wpList_ap rfl (.tmp 42) (.tmp 44) 22 22 rfl .u8 5 1 Tryz.und8 Tryz.info8 (by decide) w.heap.size _ _ rfl (HR3.out.1.alloc _) _ [8 * (N : Int) / 2 ^ sh % 256] rfl (src_sl Tryz.und8 (new1 (8 * (N : Int) / 2 ^ sh % 256))) (by rw [HR3.out.2.2]; simp <;> omega) (by have := HR3.out.2.1.size; simp <;> omega) ?_; intro v4 w4 hr4 hg4; have hB4 := hg4.below (HR3.out.1.alloc _) (by have := HR3.out.2.1.size; simp <;> omega); have HR4 : Hid (Row .u8 5 w.heap.size w4 v4 (Y ++ (be 16 (N * 8)).take j ++ [8 * (N : Int) / 2 ^ sh % 256]) ∧ Below w.heap.size w w4) := ⟨hr4, (al2 HR3.out.2.1).trans hB4⟩; clear hr4 hg4 hB4)
            go_roundw
            case rel =>
              refine ⟨j + 1, by omega, by congr 1; have := HP.out; omega, ?_, HR4.out.2⟩
              have := HR4.out.1
              rw [HS2.out, List.append_assoc, ← HT.out] at this; exact this
            case measure => simp [intOf] <;> omega
          · have hp8I : ¬ (p : Int) < 8 := by omega
            have HS0 : Hid ((0 : Int) = ((N * 8 / 256 ^ p % 256 : Nat) : Int)) := HSZ.out (by omega)
            go_wp2_with (at_builtin; refine wpList_ap rfl (.tmp 42) (.tmp 44) 22 22 rfl .u8 5 1 Tryz.und8 Tryz.info8 (by decide) w.heap.size _ _ rfl (HR3.out.1.alloc _) _ [0] rfl (src_sl Tryz.und8 (new1 (0))) (by rw [HR3.out.2.2]; simp <;> omega) (by have := HR3.out.2.1.size; simp <;> omega) ?_; intro v4 w4 hr4 hg4; have hB4 := hg4.below (HR3.out.1.alloc _) (by have := HR3.out.2.1.size; simp <;> omega); have HR4 : Hid (Row .u8 5 w.heap.size w4 v4 (Y ++ (be 16 (N * 8)).take j ++ [0]) ∧ Below w.heap.size w w4) := ⟨hr4, (al2 HR3.out.2.1).trans hB4⟩; clear hr4 hg4 hB4)
            go_roundw
            case rel =>
              refine ⟨j + 1, by omega, by congr 1; have := HP.out; omega, ?_, HR4.out.2⟩
              have := HR4.out.1
              rw [HS0.out, List.append_assoc, ← HT.out] at this; exact this
            case measure => simp [intOf] <;> omega
        · obtain rfl : j = 16 := by omega
          have HN : Hid (Row .u8 5 w.heap.size wr (.slice av2 L2 cv2) (X ++ fill N 128) ∧ Below w.heap.size w wr) := by
            have := HR3.out.1
            rw [List.take_of_length_le (by rw [be_len]; omega), HG.out] at this
            exact ⟨this, HR3.out.2.1⟩
          clear HR3
          go_wp2
          go_ret
          exact ⟨_, rfl, HN.out⟩
end Go.Proofs.YtjmiaakfdclfjaaGreatDoor.Sh
/-
  Digest: the reference's Size, Block; LentBytes, KeptBytes; much.
-/
namespace Go.Proofs.YtjmiaakfdclfjaaGreatDoor.Sh
open Go.RowKit
set_option maxRecDepth 20000
theorem al2' {a w : World} {o : Obj} (h : Below a.heap.size a w) : Below a.heap.size a (w.alloc o) := h.alloc h.size o
theorem arr_nw {k : IntKind} {e : TypeId} {w : World} {b : Nat} {cs : Array Value} {xs : List Int} (hb : b = w.heap.size) (h : cs = (xs.map (Value.int k)).toArray) : Arr k e (w.alloc (.cells cs e)) b xs := by subst hb; subst h; exact Blk.new e w _
/-- A lent list: a block from B on that holds X, the two marks, and whatever else. -/
def LentR8 (B : Nat) (w : World) (v : Value) (X : List Int) : Prop :=
  ∃ b S, v = .slice (some ⟨b, 0, none⟩) X.length S.length ∧ B ≤ b ∧ Arr .u8 5 w b S ∧ S.take (X.length + 2) = X ++ [90, 165] ∧ X.length + 2 ≤ S.length ∧ S.length ≤ maxLen
theorem LentR8.sl {B : Nat} {w : World} {v : Value} {X : List Int} (h : LentR8 B w v X) : Sl .u8 w v X := by
  obtain ⟨b, S, rfl, _, hA, ht, hl, _⟩ := h
  refine ⟨_, _, rfl, by omega, .inr ⟨b, 0, rfl, hA.lt, ?_⟩⟩
  have h1 := hA.rd 0 X.length (by omega)
  have e : S.take X.length = X := by
    have : (S.take (X.length + 2)).take X.length = S.take X.length := by rw [List.take_take]; congr 1; omega
    rw [← this, ht, List.take_left]
  rw [List.drop_zero, e] at h1; exact h1
theorem LentR8.below {B : Nat} {w w' : World} {v : Value} {X : List Int} (h : LentR8 B w v X) (hb : Below w.heap.size w w') : LentR8 B w' v X := by
  obtain ⟨b, S, rfl, h1, hA, h2⟩ := h
  exact ⟨b, S, rfl, h1, below_arr hb hA.lt hA, h2⟩
theorem LentR8.mono {B B' : Nat} {w : World} {v : Value} {X : List Int} (h : LentR8 B w v X) (hb : B' ≤ B) : LentR8 B' w v X := by
  obtain ⟨b, S, rfl, h1, h2⟩ := h
  exact ⟨b, S, rfl, by omega, h2⟩

theorem Tryz.one_int : (Tryz.prog.info? 3).map (·.size) = some 1 := by kernel_rfl
theorem RSize_any {w : World} (alg : Int) : Calls Tryz.prog 19 #[.int .i64 alg] w fun e w' => e = .returned (.int .i64 (siz alg)) ∧ w = w' := by
  unfold siz
  by_cases h1 : alg = 1
  · subst h1
    have hx : ∀ w' : World, Sem.run Tryz.prog (Instr.index 75 (.agg #[.int .i64 20, .int .i64 32, .int .i64 48, .int .i64 64]) (.int .i64 0)) w' = .ok (.int .i64 20) w' := fun w' => run_index_row w' _ _ 4 .i64 [20, 32, 48, 64] 0 Tryz.underlying75 Tryz.underlying3 Tryz.one_int rfl (by decide)
    go_enter Tryz.func19, Tryz.ntmps19; go_wp2; go_ret; exact ⟨rfl, rfl⟩
  by_cases h2 : alg = 2
  · subst h2
    have hx : ∀ w' : World, Sem.run Tryz.prog (Instr.index 75 (.agg #[.int .i64 20, .int .i64 32, .int .i64 48, .int .i64 64]) (.int .i64 1)) w' = .ok (.int .i64 32) w' := fun w' => run_index_row w' _ _ 4 .i64 [20, 32, 48, 64] 1 Tryz.underlying75 Tryz.underlying3 Tryz.one_int rfl (by decide)
    go_enter Tryz.func19, Tryz.ntmps19; go_wp2; go_ret; exact ⟨rfl, rfl⟩
  by_cases h3 : alg = 3
  · subst h3
    have hx : ∀ w' : World, Sem.run Tryz.prog (Instr.index 75 (.agg #[.int .i64 20, .int .i64 32, .int .i64 48, .int .i64 64]) (.int .i64 2)) w' = .ok (.int .i64 48) w' := fun w' => run_index_row w' _ _ 4 .i64 [20, 32, 48, 64] 2 Tryz.underlying75 Tryz.underlying3 Tryz.one_int rfl (by decide)
    go_enter Tryz.func19, Tryz.ntmps19; go_wp2; go_ret; exact ⟨rfl, rfl⟩
  by_cases h4 : alg = 4
  · subst h4
    have hx : ∀ w' : World, Sem.run Tryz.prog (Instr.index 75 (.agg #[.int .i64 20, .int .i64 32, .int .i64 48, .int .i64 64]) (.int .i64 3)) w' = .ok (.int .i64 64) w' := fun w' => run_index_row w' _ _ 4 .i64 [20, 32, 48, 64] 3 Tryz.underlying75 Tryz.underlying3 Tryz.one_int rfl (by decide)
    go_enter Tryz.func19, Tryz.ntmps19; go_wp2; go_ret; exact ⟨rfl, rfl⟩
  rw [if_neg h1, if_neg h2, if_neg h3, if_neg h4]
  by_cases h5 : alg < 1
  · go_enter Tryz.func19, Tryz.ntmps19; go_wp2; go_ret; exact ⟨rfl, rfl⟩
  · have h6 : 4 < alg := by omega
    go_enter Tryz.func19, Tryz.ntmps19; go_wp2; go_ret; exact ⟨rfl, rfl⟩

/-- A slice of slices of bytes, as an argument has it. -/
structure Lists (w : World) (a : Option Addr) (n c : Nat) (vs : List Value) (ms : List (List Int)) : Prop where
  sls : SlS w (.slice a n c) vs
  msgs : Msgs w vs ms
  len : ms.length = n
theorem Lists.at {w : World} {a : Option Addr} {n c : Nat} {vs : List Value} {ms : List (List Int)} (h : Lists w a n c vs ms) (i : Nat) (hi : i < n) :
    ∃ b off ai ni ci, a = some ⟨b, off, none⟩ ∧ b < w.heap.size ∧ vs.getD i undef = .slice ai ni ci ∧ w.cell? ⟨b, off + i, none⟩ = some (.slice ai ni ci) ∧ Sl .u8 w (.slice ai ni ci) (ms.getD i []) ∧ U8s (ms.getD i []) ∧ (ms.getD i []).length = ni := by
  have hv : vs.length = n := by rw [h.msgs.1, h.len]
  obtain ⟨a', c', hva, hc, hx⟩ := h.sls
  simp only [Value.slice.injEq] at hva
  obtain ⟨rfl, _, rfl⟩ := hva
  rcases hx with hx | ⟨b, off, rfl, hb, hcell⟩
  · rw [hx] at hv; simp at hv; omega
  · have h1 := (h.msgs.2 i (by omega))
    obtain ⟨ai, ci, hvi, hci, hxi⟩ := h1.1
    refine ⟨b, off, ai, _, ci, rfl, hb, hvi, ?_, ?_, h1.2, rfl⟩
    · rw [hcell i (by omega), hvi]
    · rw [← hvi]; exact h1.1
end Go.Proofs.YtjmiaakfdclfjaaGreatDoor.Sh
/-
  Digest: what the reference's Digest must do (G41's word alone, for seats without digest's laws).
-/
namespace Go.Proofs.YtjmiaakfdclfjaaGreatDoor.Sh
open Go.RowKit
set_option maxRecDepth 20000
def DigestC : Prop := ∀ (alg : Int) (_ : Alg alg) (w : World) (v : Value) (X : List Int), Sl .u8 w v X → U8s X → X.length ≤ 65536 →
  Calls Tryz.prog 6 #[.int .i64 alg, v] w fun e w' => ∃ r, e = .returned r ∧ Sl .u8 w' r (dig alg X) ∧ Below w.heap.size w w'
end Go.Proofs.YtjmiaakfdclfjaaGreatDoor.Sh
/-
  Rsa: the reference's Mask (over what the reference's Digest must do); Mask where its arguments may not be.
-/
namespace Go.Proofs.YtjmiaakfdclfjaaGreatDoor
open Go.RowKit
set_option maxRecDepth 20000
set_option maxHeartbeats 4000000 in
theorem RMask_any (HD : Sh.DigestC) {w : World} (alg : Int) (ha : Sh.Alg alg) (va : Option Addr) (ls vc : Nat) (seed : List Int) (hv : Sl .u8 w (.slice va ls vc) seed) (us : U8s seed) (hls : seed.length = ls) (hl : ls ≤ 8192) (n : Nat) (hn : n ≤ 2048) :
    Calls Tryz.prog 20 #[.int .i64 alg, .slice va ls vc, .int .i64 n] w fun e w' => ∃ r, e = .returned (.tuple #[r, .int .i64 0]) ∧ Sl .u8 w' r (Sh.msk alg seed n) ∧ Below w.heap.size w w' := by
  have hsz : 0 < Sh.siz alg ∧ Sh.siz alg ≤ 64 := by rcases ha with rfl | rfl | rfl | rfl <;> decide
  have HSz : Hid (∀ w' : World, Calls Tryz.prog 19 #[.int .i64 alg] w' fun e w'' => e = .returned (.int .i64 (Sh.siz alg)) ∧ w' = w'') := fun w' => RSize8 alg
  have hs0 : ((Sh.siz alg : Int) == 0) = false := by simp; omega
  have hn1 : decide ((n : Int) < 0) = false := by simp
  have hn2 : decide ((2048 : Int) < (n : Int)) = false := by simp; omega
  have HX : Hid (Sl .u8 w (.slice va ls vc) seed ∧ U8s seed ∧ seed.length = ls) := ⟨hv, us, hls⟩
  have HDg : Hid (∀ (W : World) (v : Value) (X : List Int), Sl .u8 W v X → U8s X → X.length ≤ 65536 → Calls Tryz.prog 6 #[.int .i64 alg, v] W fun e w' => ∃ r, e = .returned r ∧ Sl .u8 w' r (Sh.dig alg X) ∧ Below W.heap.size W w') := fun W v X h1 h2 h3 => HD alg ha W v X h1 h2 h3
  have HM : Hid (∀ k, (Sh.mdg alg seed k).length = k * Sh.siz alg) := fun k => Sh.mdg_len alg seed k
  obtain ⟨z, hz⟩ : ∃ z, Sh.siz alg = z := ⟨_, rfl⟩
  have HZ : Hid (Sh.siz alg = z) := hz
  rw [hz] at hsz HSz hs0 HM
  clear hv us hls hz
  go_enter Tryz.func20, Tryz.ntmps20
  go_wp2_with (go_at_call 19; refine (HSz.out _).mono ?_; rintro e w' ⟨rfl, rfl⟩)
  go_loopw [8, 9] (fun o i wr => ∃ k : Nat, i = .int .i64 k ∧ k ≤ 2048 ∧ Row .u8 5 w.heap.size wr o (Sh.mdg alg seed k) ∧ Below w.heap.size w wr) (fun _ i _ => 2049 - (intOf i).toNat)
  case atStart => exact ⟨0, rfl, by omega, Row.nil _ _ _ _, Below.refl _ _⟩
  case round =>
    obtain ⟨k, rfl, hk, hrow, hBt⟩ := hrel
    obtain ⟨a8, c8, hf8⟩ := hrow.sl.form
    rw [HM.out] at hf8
    subst hf8
    have HR : Hid (Row .u8 5 w.heap.size wr (.slice a8 (k * z) c8) (Sh.mdg alg seed k) ∧ Below w.heap.size w wr) := ⟨hrow, hBt⟩
    obtain ⟨m, hm⟩ : ∃ m, k * z = m := ⟨_, rfl⟩
    have HMk : Hid (k * z = m) := hm
    by_cases hlt : m < n
    · have hltI : (m : Int) < (n : Int) := by omega
      have hkm : k < 2048 := by have := Nat.le_mul_of_pos_right k hsz.1; omega
      rw [hm] at HR ⊢
      clear hrow hBt hm
      have HBE : Hid (Sh.be 4 k = [(k : Int) / 16777216, (k : Int) / 65536, (k : Int) / 256, (k : Int) % 256]) := by
        show Sh.be 4 k = _
        rw [Sh.be4]
        simp only [List.cons.injEq, and_true]
        refine ⟨by omega, by omega, by omega, by omega⟩
      have HU : Hid (U8s (seed ++ Sh.be 4 k) ∧ (seed ++ Sh.be 4 k).length ≤ 65536) := ⟨fun x hx => (List.mem_append.1 hx).elim (HX.out.2.1 x) (Sh.be_u8 _ _ x), by rw [List.length_append, Sh.be_len, HX.out.2.2]; omega⟩
      have HLn : Hid (((Sh.mdg alg seed k).length + (Sh.dig alg (seed ++ Sh.be 4 k)).length) * 1 ≤ 140737488355328) := by
        show _ ≤ _
        rw [HM.out, Sh.dig_len, HZ.out, HMk.out]; omega
      go_wp2_with (first
        | (at_builtin; refine wpList_ap rfl (.tmp 29) (.tmp 30) 22 22 rfl .u8 5 1 Tryz.und8 Tryz.info8 (by decide) wr.heap.size _ _ rfl Sh.row0 _ seed rfl (src_sl Tryz.und8 (below_sl (al1 _) (below_sl HR.out.2 HX.out.1))) (by have := HX.out.2.2; simp; omega) (by simp) ?_; intro v1 w1 hr1 hg1; have H1 : Hid (Row .u8 5 wr.heap.size w1 v1 seed ∧ Below wr.heap.size wr w1) := ⟨hr1, (al1 _).trans (hg1.below Sh.row0 (by simp))⟩; clear hg1 hr1)
        | (at_builtin; refine wpList_ap rfl (.tmp 31) (.tmp 43) 22 22 rfl .u8 5 1 Tryz.und8 Tryz.info8 (by decide) wr.heap.size _ _ rfl (H1.out.1.alloc _) _ [(k : Int) / 16777216, (k : Int) / 65536, (k : Int) / 256, (k : Int) % 256] rfl (src_sl Tryz.und8 (new_sl [(k : Int) / 16777216, (k : Int) / 65536, (k : Int) / 256, (k : Int) % 256] _)) (by have := HX.out.2.2; simp; omega) (by have := H1.out.2.size; simp; omega) ?_; intro v2 w2 hr2 hg2; have H2 : Hid (Row .u8 5 wr.heap.size w2 v2 (seed ++ Sh.be 4 k) ∧ Below wr.heap.size wr w2) := ⟨by rw [HBE.out]; exact hr2, (Sh.al2 H1.out.2).trans (hg2.below (H1.out.1.alloc _) (by have := H1.out.2.size; simp; omega))⟩; clear hg2 hr2)
        | (go_at_call 6; refine (HDg.out _ _ (seed ++ Sh.be 4 k) H2.out.1.sl HU.out.1 HU.out.2).mono ?_; rintro e w3 ⟨r3, rfl, hs3, hb3⟩; have H3 : Hid (Sl .u8 w3 r3 (Sh.dig alg (seed ++ Sh.be 4 k)) ∧ Below wr.heap.size wr w3) := ⟨hs3, below_via H2.out.2 hb3 (Nat.le_refl _)⟩; clear hs3 hb3)
        | (at_builtin; refine wpList_ap rfl (.tmp 27) (.tmp 45) 22 22 rfl .u8 5 1 Tryz.und8 Tryz.info8 (by decide) w.heap.size _ _ rfl (HR.out.1.below H3.out.2) _ (Sh.dig alg (seed ++ Sh.be 4 k)) rfl (src_sl Tryz.und8 H3.out.1) HLn.out (below_via HR.out.2 H3.out.2 (Nat.le_refl _)).size ?_; intro v4 w4 hr4 hg4; have H4 : Hid (Row .u8 5 w.heap.size w4 v4 (Sh.mdg alg seed (k + 1)) ∧ Below w.heap.size w w4) := ⟨by rw [Sh.mdg_succ]; exact hr4, (below_via HR.out.2 H3.out.2 (Nat.le_refl _)).trans (hg4.below (HR.out.1.below H3.out.2) (below_via HR.out.2 H3.out.2 (Nat.le_refl _)).size)⟩; clear hg4 hr4))
      go_roundw
      case rel => exact ⟨k + 1, by go_num, by omega, H4.out.1, H4.out.2⟩
      case measure => simp [intOf]; omega
    · have hge : decide ((m : Int) < (n : Int)) = false := by simp; omega
      have HB2 : Hid (Below w.heap.size w wr) := hBt
      rcases hrow with ⟨h1, h2⟩ | ⟨b, S, h1, hBb, hA, hSl, hSt, hSm⟩
      · simp only [Value.slice.injEq] at h1
        obtain ⟨rfl, h0, rfl⟩ := h1
        have hm0 : m = 0 := by omega
        have hn0 : n = 0 := by omega
        subst hn0
        rw [hm, hm0]
        rw [hm0] at hge
        clear hm HMk HR h2
        go_wp2
        go_ret2
        exact ⟨_, rfl, ⟨none, 0, rfl, by simp [Sh.msk], .inl (by simp [Sh.msk])⟩, HB2.out⟩
      · simp only [Value.slice.injEq] at h1
        obtain ⟨rfl, h0, rfl⟩ := h1
        have hS : n ≤ S.length := by rw [HM.out] at hSl; omega
        have HF : Hid (Sl .u8 wr (.slice (some ⟨b, 0, none⟩) n S.length) (Sh.msk alg seed n)) := by
          have hrd := hA.rd 0 n (by omega)
          rw [List.drop_zero] at hrd
          have he : Sh.msk alg seed n = S.take n := by
            rw [← Sh.msk_of (k := k) (by rw [HZ.out]; exact hsz.1) (by rw [HZ.out]; omega), ← hSt, List.take_take, HM.out]
            congr 1; omega
          have hln : (S.take n).length = n := by simp; omega
          refine ⟨some ⟨b, 0, none⟩, S.length, by rw [he, hln], by rw [he, hln]; exact hS, .inr ⟨b, 0, rfl, hA.lt, by rw [he]; exact hrd⟩⟩
        obtain ⟨q, hq⟩ : ∃ q, S.length = q := ⟨_, rfl⟩
        rw [hq] at hS HF ⊢
        have hSI : (n : Int) ≤ (q : Int) := by omega
        rw [hm]
        clear hm HMk HR hA hSl hSt hSm hBb hq
        go_wp2
        go_ret2
        exact ⟨_, rfl, HF.out, HB2.out⟩
end Go.Proofs.YtjmiaakfdclfjaaGreatDoor
