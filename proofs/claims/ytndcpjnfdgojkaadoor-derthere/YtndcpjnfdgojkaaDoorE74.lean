/-
  Der: the reference's decimal digits.
-/
import Derived.Test.YtndcpjnfdgojkaaDoorE73
namespace Go.Proofs.YtndcpjnfdgojkaaDoor
open Go.RowKit
theorem st_app (X Y : List Int) : strOfNums X ++ strOfNums Y = strOfNums (X ++ Y) := by
  apply ByteArray.ext
  simp [strOfNums, ByteArray.data_append]
theorem st_size (X : List Int) : (strOfNums X).size = X.length := strOfNums_size X
theorem decI_one {u : Nat} (h : u < 10) : decI u = [48 + (u : Int)] := by
  unfold decI
  rw [Lib.decDigits_one h]
  simp
  omega
theorem decI_big {u : Nat} (h : ¬ u < 10) : decI u = decI (u / 10) ++ [48 + ((u % 10 : Nat) : Int)] := by
  have : decI (u % 10) = [48 + ((u % 10 : Nat) : Int)] := decI_one (by omega)
  rw [← this]
  unfold decI
  rw [← List.map_append, Lib.decDigits_one (i := u % 10) (by omega)]
  conv => lhs; rw [Lib.decDigits, dif_neg h]
theorem one_str (w : World) (x : Int) : Sem.run Tryd.prog (convert 22 9 (.slice (some ⟨w.heap.size, 0, none⟩) 1 1)) (w.alloc (.cells #[.int .u8 x] 5)) = .ok (.string (strOfNums [x])) (w.alloc (.cells #[.int .u8 x] 5)) := by
  refine run_convert_bytes_arg _ _ _ Tryd.und8 Tryd.e8 w.heap.size 0 1 _ [x] rfl (fun i hi => ?_) _ Tryd.str
  obtain rfl : i = 0 := by omega
  exact (Blk.new 5 w [.int .u8 x]).cell 0
set_option maxRecDepth 20000 in
set_option maxHeartbeats 2000000 in
theorem Decimal_any {w : World} (N : Nat) (hN : N ≤ 4294967296) :
    Calls Tryd.prog 47 #[.int .i64 N] w fun e w' => e = .returned (.string (strOfNums (decI N))) ∧ Below w.heap.size w w' := by
  go_enter Tryd.func47, Tryd.ntmps47
  go_wp2_with fail
  go_loopw [0, 3] (fun nv sv wr => ∃ (u : Nat) (D : ByteArray) (S : List Int), nv = .int .i64 u ∧ sv = .string D ∧ D = strOfNums S ∧ u ≤ 4294967296 ∧ decI u ++ S = decI N ∧ S.length ≤ 20 ∧ Below w.heap.size w wr) (fun nv _ _ => (intOf nv).toNat)
  case atStart => exact ⟨N, _, [], rfl, rfl, rfl, hN, by simp, by simp, Below.refl _ _⟩
  case round =>
    obtain ⟨u, D, S, rfl, rfl, hD, hu, hS, hSl, hb⟩ := hrel
    have huI : (u : Int) ≤ 4294967296 := by omega
    have hsz : D.size ≤ 20 := by rw [hD, st_size]; exact hSl
    have H1 : Hid (D = strOfNums S ∧ decI u ++ S = decI N ∧ Below w.heap.size w wr) := ⟨hD, hS, hb⟩
    clear hD hS hb
    by_cases h9 : 9 < u
    · have h9I : (9 : Int) < (u : Int) := by omega
      obtain ⟨x, hx⟩ : ∃ x : Int, 48 + ((u % 10 : Nat) : Int) = x := ⟨_, rfl⟩
      have hx1 : 48 + (u : Int) % 10 = x := by omega
      have hx2 : IntKind.u8.wrap x = x := (by rw [IntKind.wrap_u8]; omega)
      have hcv := one_str wr x
      obtain ⟨D1, hD1⟩ : ∃ D1, strOfNums [x] = D1 := ⟨_, rfl⟩
      rw [hD1] at hcv
      have hz1 : D1.size = 1 := by rw [← hD1, st_size]; rfl
      obtain ⟨E, hE⟩ : ∃ E, D1 ++ D = E := ⟨_, rfl⟩
      have HE : Hid (E = strOfNums (x :: S) ∧ decI (u / 10) ++ (x :: S) = decI N ∧ (x :: S).length ≤ 20) := by
        have h3 : decI (u / 10) ++ (x :: S) = decI N := by
          rw [← H1.out.2.1, decI_big (u := u) (by omega), hx]; simp
        refine ⟨by rw [← hE, ← hD1, H1.out.1, st_app]; rfl, h3, ?_⟩
        have h4 := congrArg List.length h3
        rw [List.length_append] at h4
        have := decI_le N (by omega)
        omega
      clear hx
      go_wp2
      go_roundw
      case rel => exact ⟨u / 10, E, x :: S, by go_num, rfl, HE.out.1, by omega, HE.out.2.1, HE.out.2.2, al2' H1.out.2.2⟩
      case measure => simp [intOf]; omega
    · have h9I : ¬ (9 : Int) < (u : Int) := by omega
      obtain ⟨x, hx⟩ : ∃ x : Int, 48 + (u : Int) = x := ⟨_, rfl⟩
      have hx2 : IntKind.u8.wrap x = x := (by rw [IntKind.wrap_u8]; omega)
      have hcv := one_str wr x
      obtain ⟨D1, hD1⟩ : ∃ D1, strOfNums [x] = D1 := ⟨_, rfl⟩
      rw [hD1] at hcv
      have hz1 : D1.size = 1 := by rw [← hD1, st_size]; rfl
      obtain ⟨E, hE⟩ : ∃ E, D1 ++ D = E := ⟨_, rfl⟩
      have HE : Hid (E = strOfNums (decI N)) := by
        show _ = _
        rw [← hE, ← hD1, H1.out.1, st_app, ← H1.out.2.1, decI_one (by omega), hx]
      go_wp2
      go_ret
      exact ⟨by rw [← HE.out]; rfl, al2' H1.out.2.2⟩
end Go.Proofs.YtndcpjnfdgojkaaDoor
