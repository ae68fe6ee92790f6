/-
  Digest: the reference's filled: the message filled up to whole blocks.
-/
import Derived.Test.YtgipmjpkaemdkaaDoorG30
namespace Go.Proofs.YtgipmjpkaemdkaaDoor
open Go.RowKit
theorem be_at (r m j : Nat) (hj : j < r) : (be r m).getD j 0 = ((m / 256 ^ (r - 1 - j) % 256 : Nat) : Int) := by
  induction r generalizing j with
  | zero => omega
  | succ r ih =>
    cases j with
    | zero => simp [be]
    | succ j =>
      have := ih j (by omega)
      rw [show r + 1 - 1 - (j + 1) = r - 1 - j by omega, ← this]
      simp [be]
theorem be_take (r m j : Nat) (hj : j < r) : (be r m).take (j + 1) = (be r m).take j ++ [((m / 256 ^ (r - 1 - j) % 256 : Nat) : Int)] := by
  rw [List.take_succ_eq_append_getElem (by rw [be_len]; exact hj)]
  have := be_at r m j hj
  rw [List.getD_eq_getElem?_getD, List.getElem?_eq_getElem (by rw [be_len]; exact hj)] at this
  simp only [Option.getD_some] at this
  rw [this]
theorem sh_byte (N p s : Nat) (hs : 8 * p = s) : (8 * (N : Int)) / 2 ^ s % 256 = ((N * 8 / 256 ^ p % 256 : Nat) : Int) := by
  have e : (256 : Nat) ^ p = 2 ^ s := by rw [← hs, Nat.pow_mul]
  rw [e, Int.natCast_emod, Int.natCast_ediv, Int.natCast_pow, Int.natCast_mul, Int.mul_comm]
  rfl
theorem sh_zero (N p : Nat) (hN : N ≤ 16777216) (hp : 8 ≤ p) : (0 : Int) = ((N * 8 / 256 ^ p % 256 : Nat) : Int) := by
  have : 256 ^ 8 ≤ 256 ^ p := Nat.pow_le_pow_right (by decide) hp
  rw [Nat.div_eq_of_lt (by omega)]; rfl
theorem new1 {w : World} {e : TypeId} (x : Int) : Sl .u8 (w.alloc (.cells #[.int .u8 x] e)) (.slice (some ⟨w.heap.size, 0, none⟩) 1 1) [x] := new_sl [x] (0, 0)
theorem row0 {w : World} : Row .u8 5 w.heap.size (w.alloc (.cells #[] 5)) (.slice (some ⟨w.heap.size, 0, none⟩) 0 0) [] := Row.arr (S := []) (Blk.new 5 w []) (Nat.le_refl _) (by decide)
theorem al2 {a w : World} {o : Obj} (h : Below a.heap.size a w) : Below a.heap.size a (w.alloc o) := h.alloc h.size o

set_option maxHeartbeats 2000000 in
theorem filled_64 {w : World} (v : Value) (X : List Int) (hX : Sl .u8 w v X) (hl : X.length ≤ 16777216) :
    Calls Tryd.prog 35 #[v, .int .i64 64] w fun e w' => ∃ r, e = .returned r ∧ Row .u8 5 w.heap.size w' r (X ++ fill X.length 64) ∧ Below w.heap.size w w' := by
  obtain ⟨a, cp, rfl, hcp⟩ : ∃ a c, v = .slice a X.length c ∧ X.length ≤ c := by obtain ⟨a, c, h, h', _⟩ := hX; exact ⟨a, c, h, h'⟩
  obtain ⟨N, hN⟩ : ∃ n, X.length = n := ⟨_, rfl⟩
  have HX : Hid (Sl .u8 w (.slice a N cp) X ∧ X.length = N) := ⟨by rw [← hN]; exact hX, hN⟩
  rw [hN] at hl hcp
  simp only [hN]
  obtain ⟨Z, hZ⟩ : ∃ z, 64 - 1 - (N + 8) % 64 = z := ⟨_, rfl⟩
  have hmod := Nat.mod_lt (N + 8) (show 0 < 64 by decide)
  have HF : Hid (fill N 64 = 128 :: (List.replicate Z 0 ++ be 8 (N * 8))) := by
    show fill N 64 = _
    unfold fill fillLen
    rw [show 64 - (N + 64 / 8) % 64 + 64 / 8 - 1 - 64 / 8 = Z by omega]
  have HZ : Hid (∀ z, z ≤ Z → (((N : Int) + 1 + z + 8) % 64 = 0 ↔ z = Z)) := fun z hz => by omega
  have hZ2 : Z < 64 := by omega
  clear hX hN hZ hmod
  go_enter Tryd.func35, Tryd.ntmps35
  go_wp2_with (first
    | (at_builtin; replace hr1 := hr1; refine wpList_ap rfl (.tmp 13) (.tmp 14) 25 25 rfl .u8 5 1 Tryd.und8 Tryd.info8 (by decide) w.heap.size _ _ rfl (hr1.alloc _) _ [128] rfl (src_sl Tryd.und8 (new1 128)) (by have := HX.out.2; simp; omega) (by have := hB1.size; simp at this ⊢; omega) ?_; intro v2 w2 hr2 hg2; have hB2 := hg2.below (hr1.alloc _) (by have := hB1.size; simp at this ⊢; omega); have HR2 : Hid (Row .u8 5 w.heap.size w2 v2 (X ++ [128]) ∧ Below w.heap.size w w2) := ⟨hr2, (al2 hB1).trans hB2⟩; clear hr2 hg2 hB2 hr1 hB1)
    | (at_builtin; refine wpList_ap rfl (.tmp 11) (.tmp 12) 25 25 rfl .u8 5 1 Tryd.und8 Tryd.info8 (by decide) w.heap.size _ _ rfl row0 _ X rfl (src_sl Tryd.und8 (below_sl (al1 _) HX.out.1)) (by have := HX.out.2; simp; omega) (by simp) ?_; intro v1 w1 hr1 hg1; have hB1 : Below w.heap.size w w1 := (al1 _).trans (hg1.below row0 (by simp)); clear hg1))
  go_loopw [6] (fun mv wr => ∃ z : Nat, z ≤ Z ∧ Row .u8 5 w.heap.size wr mv (X ++ 128 :: List.replicate z 0) ∧ Below w.heap.size w wr) (fun mv _ => 64 + N + 1 - lenOf mv)
  case atStart => exact ⟨0, by omega, HR2.out⟩
  case round =>
    obtain ⟨z, hz, hr, hBw⟩ := hrel
    obtain ⟨L, hL⟩ : ∃ l, (X ++ 128 :: List.replicate z (0 : Int)).length = l := ⟨_, rfl⟩
    have hL2 : L = N + 1 + z := by rw [← hL]; have := HX.out.2; simp; omega
    obtain ⟨av, cv, hv⟩ := hr.ne
    rw [hL] at hv
    subst hv
    have HR : Hid (Row .u8 5 w.heap.size wr (.slice av L cv) (X ++ 128 :: List.replicate z 0) ∧ Below w.heap.size w wr) := ⟨hr, hBw⟩
    have HL : Hid ((X ++ 128 :: List.replicate z (0 : Int)).length = L) := hL
    have hLs : L ≤ 16778000 := by omega
    have HL2 : Hid (L = N + 1 + z) := hL2
    have hzz := HZ.out z hz
    clear hr hBw hL hL2
    by_cases hlt : z < Z
    · have hne : ¬ ((L : Int) + 8) % 64 = 0 := by intro h; have := hzz.1 (by rw [← h, HL2.out]; congr 1 <;> omega); omega
      clear hzz
      go_wp2_with (at_builtin; refine wpList_ap rfl (.tmp 23) (.tmp 24) 25 25 rfl .u8 5 1 Tryd.und8 Tryd.info8 (by decide) w.heap.size _ _ rfl (HR.out.1.alloc _) _ [0] rfl (src_sl Tryd.und8 (new1 0)) (by rw [HL.out]; simp <;> omega) (by have := HR.out.2.size; simp <;> omega) ?_; intro v2 w2 hr2 hg2; have hB2 := hg2.below (HR.out.1.alloc _) (by have := HR.out.2.size; simp <;> omega); have HR2' : Hid (Row .u8 5 w.heap.size w2 v2 (X ++ 128 :: List.replicate z 0 ++ [0]) ∧ Below w.heap.size w w2) := ⟨hr2, (al2 HR.out.2).trans hB2⟩; clear hr2 hg2 hB2)
      go_roundw
      case rel =>
        refine ⟨z + 1, by omega, ?_, HR2'.out.2⟩
        have := HR2'.out.1
        rw [List.append_assoc, List.cons_append, ← List.replicate_succ'] at this; exact this
      case measure =>
        obtain ⟨a2, c2, h2⟩ := HR2'.out.1.ne
        rw [h2]
        have := HL.out
        have := HL2.out
        have := HX.out.2
        simp [lenOf] at *
        omega
    · obtain rfl : z = Z := by omega
      have he : ((L : Int) + 8) % 64 = 0 := by have := hzz.2 rfl; rw [← this, HL2.out]; congr 1 <;> omega
      clear hzz
      have HG : Hid (X ++ 128 :: List.replicate z (0 : Int) ++ be 8 (N * 8) = X ++ fill N 64) := by rw [HF.out, List.append_assoc, List.cons_append]; rfl
      obtain ⟨Y, hY⟩ : ∃ Y, X ++ 128 :: List.replicate z (0 : Int) = Y := ⟨_, rfl⟩
      rw [hY] at HR HL HG
      clear hY
      go_wp2_with fail
      clear he
      go_loopw [6, 7] (fun mv iv wr => ∃ j : Nat, j ≤ 8 ∧ iv = .int .i64 (8 - 1 - (j : Int)) ∧ Row .u8 5 w.heap.size wr mv (Y ++ (be 8 (N * 8)).take j) ∧ Below w.heap.size w wr) (fun _ iv _ => (intOf iv + 1).toNat)
      case atStart => exact ⟨0, by omega, rfl, by simpa using HR.out.1, HR.out.2⟩
      case round =>
        obtain ⟨j, hj, rfl, hr, hBw⟩ := hrel
        obtain ⟨L2, hL'⟩ : ∃ l, (Y ++ (be 8 (N * 8)).take j).length = l := ⟨_, rfl⟩
        have hLs2 : L2 ≤ 33554432 := by rw [← hL', List.length_append, List.length_take, be_len]; have := HL.out; omega
        obtain ⟨av2, cv2, hv⟩ := hr.ne
        rw [hL'] at hv
        subst hv
        have HR3 : Hid (Row .u8 5 w.heap.size wr (.slice av2 L2 cv2) (Y ++ (be 8 (N * 8)).take j) ∧ Below w.heap.size w wr ∧ (Y ++ (be 8 (N * 8)).take j).length = L2) := ⟨hr, hBw, hL'⟩
        clear hr hBw hL'
        by_cases hjc : j < 8
        · obtain ⟨p, hp⟩ : ∃ p : Nat, 8 - 1 - j = p := ⟨_, rfl⟩
          have hpI : (8 : Int) - 1 - (j : Int) = (p : Int) := by omega
          have hp0 : (0 : Int) ≤ (p : Int) := by omega
          have HT : Hid ((be 8 (N * 8)).take (j + 1) = (be 8 (N * 8)).take j ++ [((N * 8 / 256 ^ p % 256 : Nat) : Int)]) := by rw [be_take 8 _ j hjc, hp]; rfl
          obtain ⟨sh, hsh⟩ : ∃ s : Nat, 8 * p = s := ⟨_, rfl⟩
          have hshI : (8 : Int) * (p : Int) = (sh : Int) := by omega
          have HSH := sh_byte N p sh hsh
          have HS2 : Hid ((8 * (N : Int)) / 2 ^ sh % 256 = ((N * 8 / 256 ^ p % 256 : Nat) : Int)) := HSH
          have hsb : sh ≤ 127 := by omega
          have hp' : p < 8 := by omega
          have HP : Hid (8 - 1 - j = p) := hp
          have HSZ : Hid (8 ≤ p → (0 : Int) = ((N * 8 / 256 ^ p % 256 : Nat) : Int)) := fun h8 => sh_zero N p hl h8
          clear hsh HSH hp
          rw [hpI]
          by_cases hp8 : p < 8
          · have hp8I : (p : Int) < 8 := by omega
            have hsb2 : sh ≤ 56 := by omega
            go_wp2_with (at_builtin; refine wpList_ap rfl (.tmp 42) (.tmp 44) 25 25 rfl .u8 5 1 Tryd.und8 Tryd.info8 (by decide) w.heap.size _ _ rfl (HR3.out.1.alloc _) _ [8 * (N : Int) / 2 ^ sh % 256] rfl (src_sl Tryd.und8 (new1 (8 * (N : Int) / 2 ^ sh % 256))) (by rw [HR3.out.2.2]; simp <;> omega) (by have := HR3.out.2.1.size; simp <;> omega) ?_; intro v4 w4 hr4 hg4; have hB4 := hg4.below (HR3.out.1.alloc _) (by have := HR3.out.2.1.size; simp <;> omega); have HR4 : Hid (Row .u8 5 w.heap.size w4 v4 (Y ++ (be 8 (N * 8)).take j ++ [8 * (N : Int) / 2 ^ sh % 256]) ∧ Below w.heap.size w w4) := ⟨hr4, (al2 HR3.out.2.1).trans hB4⟩; clear hr4 hg4 hB4)
            go_roundw
            case rel =>
              refine ⟨j + 1, by omega, by congr 1; have := HP.out; omega, ?_, HR4.out.2⟩
              have := HR4.out.1
              rw [HS2.out, List.append_assoc, ← HT.out] at this; exact this
            case measure => simp [intOf] <;> omega
          · exfalso; omega
        · obtain rfl : j = 8 := by omega
          have HN : Hid (Row .u8 5 w.heap.size wr (.slice av2 L2 cv2) (X ++ fill N 64) ∧ Below w.heap.size w wr) := by
            have := HR3.out.1
            rw [List.take_of_length_le (by rw [be_len]; omega), HG.out] at this
            exact ⟨this, HR3.out.2.1⟩
          clear HR3
          go_wp2
          go_ret
          exact ⟨_, rfl, HN.out⟩

set_option maxHeartbeats 2000000 in
theorem filled_128 {w : World} (v : Value) (X : List Int) (hX : Sl .u8 w v X) (hl : X.length ≤ 16777216) :
    Calls Tryd.prog 35 #[v, .int .i64 128] w fun e w' => ∃ r, e = .returned r ∧ Row .u8 5 w.heap.size w' r (X ++ fill X.length 128) ∧ Below w.heap.size w w' := by
  obtain ⟨a, cp, rfl, hcp⟩ : ∃ a c, v = .slice a X.length c ∧ X.length ≤ c := by obtain ⟨a, c, h, h', _⟩ := hX; exact ⟨a, c, h, h'⟩
  obtain ⟨N, hN⟩ : ∃ n, X.length = n := ⟨_, rfl⟩
  have HX : Hid (Sl .u8 w (.slice a N cp) X ∧ X.length = N) := ⟨by rw [← hN]; exact hX, hN⟩
  rw [hN] at hl hcp
  simp only [hN]
  obtain ⟨Z, hZ⟩ : ∃ z, 128 - 1 - (N + 16) % 128 = z := ⟨_, rfl⟩
  have hmod := Nat.mod_lt (N + 16) (show 0 < 128 by decide)
  have HF : Hid (fill N 128 = 128 :: (List.replicate Z 0 ++ be 16 (N * 8))) := by
    show fill N 128 = _
    unfold fill fillLen
    rw [show 128 - (N + 128 / 8) % 128 + 128 / 8 - 1 - 128 / 8 = Z by omega]
  have HZ : Hid (∀ z, z ≤ Z → (((N : Int) + 1 + z + 16) % 128 = 0 ↔ z = Z)) := fun z hz => by omega
  have hZ2 : Z < 128 := by omega
  clear hX hN hZ hmod
  go_enter Tryd.func35, Tryd.ntmps35
  go_wp2_with (first
    | (at_builtin; replace hr1 := hr1; refine wpList_ap rfl (.tmp 13) (.tmp 14) 25 25 rfl .u8 5 1 Tryd.und8 Tryd.info8 (by decide) w.heap.size _ _ rfl (hr1.alloc _) _ [128] rfl (src_sl Tryd.und8 (new1 128)) (by have := HX.out.2; simp; omega) (by have := hB1.size; simp at this ⊢; omega) ?_; intro v2 w2 hr2 hg2; have hB2 := hg2.below (hr1.alloc _) (by have := hB1.size; simp at this ⊢; omega); have HR2 : Hid (Row .u8 5 w.heap.size w2 v2 (X ++ [128]) ∧ Below w.heap.size w w2) := ⟨hr2, (al2 hB1).trans hB2⟩; clear hr2 hg2 hB2 hr1 hB1)
    | (at_builtin; refine wpList_ap rfl (.tmp 11) (.tmp 12) 25 25 rfl .u8 5 1 Tryd.und8 Tryd.info8 (by decide) w.heap.size _ _ rfl row0 _ X rfl (src_sl Tryd.und8 (below_sl (al1 _) HX.out.1)) (by have := HX.out.2; simp; omega) (by simp) ?_; intro v1 w1 hr1 hg1; have hB1 : Below w.heap.size w w1 := (al1 _).trans (hg1.below row0 (by simp)); clear hg1))
  go_loopw [6] (fun mv wr => ∃ z : Nat, z ≤ Z ∧ Row .u8 5 w.heap.size wr mv (X ++ 128 :: List.replicate z 0) ∧ Below w.heap.size w wr) (fun mv _ => 128 + N + 1 - lenOf mv)
  case atStart => exact ⟨0, by omega, HR2.out⟩
  case round =>
    obtain ⟨z, hz, hr, hBw⟩ := hrel
    obtain ⟨L, hL⟩ : ∃ l, (X ++ 128 :: List.replicate z (0 : Int)).length = l := ⟨_, rfl⟩
    have hL2 : L = N + 1 + z := by rw [← hL]; have := HX.out.2; simp; omega
    obtain ⟨av, cv, hv⟩ := hr.ne
    rw [hL] at hv
    subst hv
    have HR : Hid (Row .u8 5 w.heap.size wr (.slice av L cv) (X ++ 128 :: List.replicate z 0) ∧ Below w.heap.size w wr) := ⟨hr, hBw⟩
    have HL : Hid ((X ++ 128 :: List.replicate z (0 : Int)).length = L) := hL
    have hLs : L ≤ 16778000 := by omega
    have HL2 : Hid (L = N + 1 + z) := hL2
    have hzz := HZ.out z hz
    clear hr hBw hL hL2
    by_cases hlt : z < Z
    · have hne : ¬ ((L : Int) + 16) % 128 = 0 := by intro h; have := hzz.1 (by rw [← h, HL2.out]; congr 1 <;> omega); omega
      clear hzz
      go_wp2_with (at_builtin; refine wpList_ap rfl (.tmp 23) (.tmp 24) 25 25 rfl .u8 5 1 Tryd.und8 Tryd.info8 (by decide) w.heap.size _ _ rfl (HR.out.1.alloc _) _ [0] rfl (src_sl Tryd.und8 (new1 0)) (by rw [HL.out]; simp <;> omega) (by have := HR.out.2.size; simp <;> omega) ?_; intro v2 w2 hr2 hg2; have hB2 := hg2.below (HR.out.1.alloc _) (by have := HR.out.2.size; simp <;> omega); have HR2' : Hid (Row .u8 5 w.heap.size w2 v2 (X ++ 128 :: List.replicate z 0 ++ [0]) ∧ Below w.heap.size w w2) := ⟨hr2, (al2 HR.out.2).trans hB2⟩; clear hr2 hg2 hB2)
      go_roundw
      case rel =>
        refine ⟨z + 1, by omega, ?_, HR2'.out.2⟩
        have := HR2'.out.1
        rw [List.append_assoc, List.cons_append, ← List.replicate_succ'] at this; exact this
      case measure =>
        obtain ⟨a2, c2, h2⟩ := HR2'.out.1.ne
        rw [h2]
        have := HL.out
        have := HL2.out
        have := HX.out.2
        simp [lenOf] at *
        omega
    · obtain rfl : z = Z := by omega
      have he : ((L : Int) + 16) % 128 = 0 := by have := hzz.2 rfl; rw [← this, HL2.out]; congr 1 <;> omega
      clear hzz
      have HG : Hid (X ++ 128 :: List.replicate z (0 : Int) ++ be 16 (N * 8) = X ++ fill N 128) := by rw [HF.out, List.append_assoc, List.cons_append]; rfl
      obtain ⟨Y, hY⟩ : ∃ Y, X ++ 128 :: List.replicate z (0 : Int) = Y := ⟨_, rfl⟩
      rw [hY] at HR HL HG
      clear hY
      go_wp2_with fail
      clear he
      go_loopw [6, 7] (fun mv iv wr => ∃ j : Nat, j ≤ 16 ∧ iv = .int .i64 (16 - 1 - (j : Int)) ∧ Row .u8 5 w.heap.size wr mv (Y ++ (be 16 (N * 8)).take j) ∧ Below w.heap.size w wr) (fun _ iv _ => (intOf iv + 1).toNat)
      case atStart => exact ⟨0, by omega, rfl, by simpa using HR.out.1, HR.out.2⟩
      case round =>
        obtain ⟨j, hj, rfl, hr, hBw⟩ := hrel
        obtain ⟨L2, hL'⟩ : ∃ l, (Y ++ (be 16 (N * 8)).take j).length = l := ⟨_, rfl⟩
        have hLs2 : L2 ≤ 33554432 := by rw [← hL', List.length_append, List.length_take, be_len]; have := HL.out; omega
        obtain ⟨av2, cv2, hv⟩ := hr.ne
        rw [hL'] at hv
        subst hv
        have HR3 : Hid (Row .u8 5 w.heap.size wr (.slice av2 L2 cv2) (Y ++ (be 16 (N * 8)).take j) ∧ Below w.heap.size w wr ∧ (Y ++ (be 16 (N * 8)).take j).length = L2) := ⟨hr, hBw, hL'⟩
        clear hr hBw hL'
        by_cases hjc : j < 16
        · obtain ⟨p, hp⟩ : ∃ p : Nat, 16 - 1 - j = p := ⟨_, rfl⟩
          have hpI : (16 : Int) - 1 - (j : Int) = (p : Int) := by omega
          have hp0 : (0 : Int) ≤ (p : Int) := by omega
          have HT : Hid ((be 16 (N * 8)).take (j + 1) = (be 16 (N * 8)).take j ++ [((N * 8 / 256 ^ p % 256 : Nat) : Int)]) := by rw [be_take 16 _ j hjc, hp]; rfl
          obtain ⟨sh, hsh⟩ : ∃ s : Nat, 8 * p = s := ⟨_, rfl⟩
          have hshI : (8 : Int) * (p : Int) = (sh : Int) := by omega
          have HSH := sh_byte N p sh hsh
          have HS2 : Hid ((8 * (N : Int)) / 2 ^ sh % 256 = ((N * 8 / 256 ^ p % 256 : Nat) : Int)) := HSH
          have hsb : sh ≤ 127 := by omega
          have hp' : p < 16 := by omega
          have HP : Hid (16 - 1 - j = p) := hp
          have HSZ : Hid (8 ≤ p → (0 : Int) = ((N * 8 / 256 ^ p % 256 : Nat) : Int)) := fun h8 => sh_zero N p hl h8
          clear hsh HSH hp
          rw [hpI]
          by_cases hp8 : p < 8
          · have hp8I : (p : Int) < 8 := by omega
            have hsb2 : sh ≤ 56 := by omega
            go_wp2_with (at_builtin; refine wpList_ap rfl (.tmp 42) (.tmp 44) 25 25 rfl .u8 5 1 Tryd.und8 Tryd.info8 (by decide) w.heap.size _ _ rfl (HR3.out.1.alloc _) _ [8 * (N : Int) / 2 ^ sh % 256] rfl (src_sl Tryd.und8 (new1 (8 * (N : Int) / 2 ^ sh % 256))) (by rw [HR3.out.2.2]; simp <;> omega) (by have := HR3.out.2.1.size; simp <;> omega) ?_; intro v4 w4 hr4 hg4; have hB4 := hg4.below (HR3.out.1.alloc _) (by have := HR3.out.2.1.size; simp <;> omega); have HR4 : Hid (Row .u8 5 w.heap.size w4 v4 (Y ++ (be 16 (N * 8)).take j ++ [8 * (N : Int) / 2 ^ sh % 256]) ∧ Below w.heap.size w w4) := ⟨hr4, (al2 HR3.out.2.1).trans hB4⟩; clear hr4 hg4 hB4)
            go_roundw
            case rel =>
              refine ⟨j + 1, by omega, by congr 1; have := HP.out; omega, ?_, HR4.out.2⟩
              have := HR4.out.1
              rw [HS2.out, List.append_assoc, ← HT.out] at this; exact this
            case measure => simp [intOf] <;> omega
          · have hp8I : ¬ (p : Int) < 8 := by omega
            have HS0 : Hid ((0 : Int) = ((N * 8 / 256 ^ p % 256 : Nat) : Int)) := HSZ.out (by omega)
            go_wp2_with (at_builtin; refine wpList_ap rfl (.tmp 42) (.tmp 44) 25 25 rfl .u8 5 1 Tryd.und8 Tryd.info8 (by decide) w.heap.size _ _ rfl (HR3.out.1.alloc _) _ [0] rfl (src_sl Tryd.und8 (new1 (0))) (by rw [HR3.out.2.2]; simp <;> omega) (by have := HR3.out.2.1.size; simp <;> omega) ?_; intro v4 w4 hr4 hg4; have hB4 := hg4.below (HR3.out.1.alloc _) (by have := HR3.out.2.1.size; simp <;> omega); have HR4 : Hid (Row .u8 5 w.heap.size w4 v4 (Y ++ (be 16 (N * 8)).take j ++ [0]) ∧ Below w.heap.size w w4) := ⟨hr4, (al2 HR3.out.2.1).trans hB4⟩; clear hr4 hg4 hB4)
            go_roundw
            case rel =>
              refine ⟨j + 1, by omega, by congr 1; have := HP.out; omega, ?_, HR4.out.2⟩
              have := HR4.out.1
              rw [HS0.out, List.append_assoc, ← HT.out] at this; exact this
            case measure => simp [intOf] <;> omega
        · obtain rfl : j = 16 := by omega
          have HN : Hid (Row .u8 5 w.heap.size wr (.slice av2 L2 cv2) (X ++ fill N 128) ∧ Below w.heap.size w wr) := by
            have := HR3.out.1
            rw [List.take_of_length_le (by rw [be_len]; omega), HG.out] at this
            exact ⟨this, HR3.out.2.1⟩
          clear HR3
          go_wp2
          go_ret
          exact ⟨_, rfl, HN.out⟩
end Go.Proofs.YtgipmjpkaemdkaaDoor
