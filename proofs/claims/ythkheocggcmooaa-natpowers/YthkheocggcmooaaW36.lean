/-
  The walk of the reference's mul.
-/
import Derived.Test.YthkheocggcmooaaW35
import Derived.Test.YthkheocggcmooaaW7
namespace Go.Proofs.Ythkheocggcmooaa.D
theorem add_step (P c x y a v u : Int) (T : Int) (hT : T = c + (x * y + a)) (ih : v + P * c = u) :
    (v + P * (T % 65536)) + (65536 * P) * (T / 65536) = u + P * a + x * (P * y) := by
  have h1 : T % 65536 + 65536 * (T / 65536) = T := by omega
  have h2 : P * (T % 65536) + (65536 * P) * (T / 65536) = P * T := by
    rw [← h1, Int.mul_add]; congr 1
    · rw [h1]
    · rw [h1, Int.mul_comm 65536 P, Int.mul_assoc]
  have h3 : P * T = P * c + (P * (x * y) + P * a) := by rw [hT, Int.mul_add, Int.mul_add]
  have h4 : x * (P * y) = P * (x * y) := by rw [← Int.mul_assoc, Int.mul_comm x P, Int.mul_assoc]
  omega

theorem val_set {S : List Int} {i : Nat} (h : i < S.length) (z : Int) : val (S.set i z) = val S + 65536 ^ i * (z - S.getD i 0) := by
  induction S generalizing i with
  | nil => simp at h
  | cons x S ih =>
    cases i with
    | zero => simp [val]; omega
    | succ i =>
      have := ih (i := i) (by simpa using h)
      simp only [List.set_cons_succ, val, this, pow_succ16, Int.mul_add, Int.mul_assoc]
      simp only [List.getD_cons_succ]; omega

theorem mid_val {S Z : List Int} {i : Nat} (h : i + Z.length ≤ S.length) :
    val (S.take i ++ Z ++ S.drop (i + Z.length)) = val S + 65536 ^ i * (val Z - val ((S.drop i).take Z.length)) := by
  have e : val S = val (S.take i) + 65536 ^ i * (val ((S.drop i).take Z.length) + 65536 ^ Z.length * val (S.drop (i + Z.length))) := by
    conv => lhs; rw [← List.take_append_drop i S, ← List.take_append_drop Z.length (S.drop i)]
    rw [val_append, val_append, List.length_take, List.length_take, Nat.min_eq_left (by omega), Nat.min_eq_left (by simp; omega), List.drop_drop]
  rw [e, List.append_assoc, val_append, val_append, List.length_take, Nat.min_eq_left (by omega), Int.mul_sub, Int.mul_add, Int.mul_add]; omega
theorem mid_u16 {S Z : List Int} {i : Nat} (hS : U16s S) (hZ : U16s Z) : U16s (S.take i ++ Z ++ S.drop (i + Z.length)) := ((hS.take i).append hZ).append (hS.drop _)

end Go.Proofs.Ythkheocggcmooaa.D
namespace Go.Proofs.Ythkheocggcmooaa
open Go.RowKit

theorem mul_u16 {x y : Int} (hx : D.U16 x) (hy : D.U16 y) : 0 ≤ x * y ∧ x * y ≤ 4294836225 := by
  unfold D.U16 at hx hy
  refine ⟨Int.mul_nonneg hx.1 hy.1, ?_⟩
  calc x * y ≤ 65535 * y := Int.mul_le_mul_of_nonneg_right (by omega) hy.1
    _ ≤ 65535 * 65535 := Int.mul_le_mul_of_nonneg_left (by omega) (by decide)
    _ = _ := by decide

set_option maxHeartbeats 4000000 in
theorem mul_any {w : World} (v u : Value) (A B : List Int) (hA : Sl .u64 w v A) (hB : Sl .u64 w u B) (uA : D.U16s A) (uB : D.U16s B) (lA : A.length ≤ 1073741824) (lB : B.length ≤ 1073741824) (N : Int) (hN : D.val A * D.val B = N) :
    Calls Try.prog 56 #[v, u] w fun e w' => ∃ r, e = .returned r ∧ Sl .u64 w' r (D.lim N.toNat) ∧ Below w.heap.size w w' := by
  have hA0 := hA; have hB0 := hB
  obtain ⟨a, ca, hv, _⟩ := hA.len
  obtain ⟨bb, cb, hu, _⟩ := hB.len
  subst hv; subst hu
  have HN : Hid (D.val A * D.val B = N) := hN
  clear hN hA hB
  go_enter Try.func56, Try.ntmps56
  go_wp2_with (at_make; refine wpList_mk _ rfl _ _ 58 rfl .u64 42 8 Try.und64 Try.info64 _ (A.length + B.length) rfl rfl (by omega) (by omega) (by omega) ?_; intro w1 hA1 hB1)
  go_loopw [6] (fun iv wr => ∃ (i : Nat) (S : List Int), iv = .int .i64 i ∧ i ≤ A.length ∧ Arr .u64 42 wr w.heap.size S ∧ D.U16s S ∧ S.length = A.length + B.length ∧ Below w.heap.size w wr ∧ D.val S = D.val (A.take i) * D.val B ∧ ∀ j, i + B.length ≤ j → S.getD j 0 = 0)
      (fun iv _ => A.length - (intOf iv).toNat)
  case atStart => exact ⟨0, _, rfl, Nat.zero_le _, hA1, D.U16s.zeros _, by simp, hB1, by simp [D.val_zeros, D.val], fun j _ => by simp [List.getD, List.getElem?_replicate]; split <;> rfl⟩
  case round =>
    clear hA1 hB1
    obtain ⟨i, S, rfl, hi, hS, uS, lS, hBt, hv, hz⟩ := hrel
    by_cases hlt : i < A.length
    · obtain ⟨b, off, ha, hb, hrd⟩ : ∃ b off, a = some ⟨b, off, none⟩ ∧ b < w.heap.size ∧ Rd .u64 w b off A := by
        obtain ⟨a', c', h1, _, h2⟩ := hA0
        cases h1
        rcases h2 with rfl | ⟨b, off, rfl, hb, hr⟩
        · simp at hlt
        · exact ⟨b, off, rfl, hb, hr⟩
      subst ha
      obtain ⟨x, hx⟩ : ∃ x, A.getD i 0 = x := ⟨_, rfl⟩
      have ux : D.U16 x := hx ▸ uA.at i
      have HO : Hid (Below w.heap.size w wr ∧ D.val S = D.val (A.take i) * D.val B ∧ (∀ j, i + B.length ≤ j → S.getD j 0 = 0) ∧ Arr .u64 42 wr w.heap.size S) := ⟨hBt, hv, hz, hS⟩
      have HX : Hid (A.getD i 0 = x ∧ Rd .u64 w b off A ∧ b < w.heap.size) := ⟨hx, hrd, hb⟩
      clear hBt hv hz hx hrd hS
      obtain ⟨ux1, ux2⟩ := ux
      go_wp2
      go_loopw [7, 8] (fun t kv wq => ∃ Z carry, Z.length ≤ B.length ∧ kv = .int .i64 Z.length ∧ t = .int .u64 carry ∧ D.U16 carry ∧ D.U16s Z ∧ Arr .u64 42 wq w.heap.size (S.take i ++ Z ++ S.drop (i + Z.length)) ∧ Below w.heap.size w wq ∧
        D.val Z + 65536 ^ Z.length * carry = D.val ((S.drop i).take Z.length) + x * D.val (B.take Z.length)) (fun _ kv _ => B.length - (intOf kv).toNat)
      case atStart => exact ⟨[], 0, Nat.zero_le _, rfl, rfl, ⟨by decide, by decide⟩, D.U16s.nil, by simpa using HO.out.2.2.2, HO.out.1, by simp [D.val]⟩
      case round =>
        obtain ⟨Z, carry, hkz, rfl, rfl, uc, uZ, hM, hBt, heq⟩ := hrel
        obtain ⟨uc1, uc2⟩ := uc
        obtain ⟨k, hk⟩ : ∃ k, Z.length = k := ⟨_, rfl⟩
        by_cases hlt2 : k < B.length
        · obtain ⟨b2, off2, ha2, hb2, hrd2⟩ : ∃ b2 off2, bb = some ⟨b2, off2, none⟩ ∧ b2 < w.heap.size ∧ Rd .u64 w b2 off2 B := by
            obtain ⟨a', c', h1, _, h2⟩ := hB0
            cases h1
            rcases h2 with rfl | ⟨b, off, rfl, hb, hr⟩
            · simp at hlt2
            · exact ⟨b, off, rfl, hb, hr⟩
          subst ha2
          obtain ⟨y, hy⟩ : ∃ y, B.getD k 0 = y := ⟨_, rfl⟩
          obtain ⟨s, hs⟩ : ∃ s, S.getD (i + k) 0 = s := ⟨_, rfl⟩
          have uy : D.U16 y := hy ▸ uB.at k
          have us : D.U16 s := hs ▸ uS.at (i + k)
          have hcx : wr.cell? ⟨b, off + i, none⟩ = some (.int .u64 x) := by rw [hBt.cell HX.out.2.2, HX.out.2.1 i hlt, HX.out.1]
          have hcy : wr.cell? ⟨b2, off2 + k, none⟩ = some (.int .u64 y) := by rw [hBt.cell hb2, hrd2 k hlt2, hy]
          have hcs : wr.cell? ⟨w.heap.size, i + k, none⟩ = some (.int .u64 s) := by
            have := hM.cell (i + k) (by rw [mid_len _ _ _ (by omega)]; omega)
            rw [← hk, mid_get, hk, hs] at this; rw [← hk, ← this, hk]
          have hfs : wr.frozen? ⟨w.heap.size, i + k, none⟩ = false := hM.frozen _
          obtain ⟨p, hp⟩ : ∃ p, x * y = p := ⟨_, rfl⟩
          have hpb := mul_u16 ⟨ux1, ux2⟩ uy
          rw [hp] at hpb
          obtain ⟨pb1, pb2⟩ := hpb
          obtain ⟨uy1, uy2⟩ := uy
          obtain ⟨us1, us2⟩ := us
          have HH : Hid (B.getD k 0 = y ∧ S.getD (i + k) 0 = s ∧ Arr .u64 42 wr w.heap.size (S.take i ++ Z ++ S.drop (i + Z.length)) ∧ Below w.heap.size w wr ∧ D.U16s Z ∧ Z.length = k ∧ x * y = p ∧
            D.val Z + 65536 ^ Z.length * carry = D.val ((S.drop i).take Z.length) + x * D.val (B.take Z.length)) := ⟨hy, hs, hM, hBt, uZ, hk, hp, heq⟩
          rw [hk] at hkz ⊢
          clear hy hs hM hBt uZ heq hk hrd2
          go_wp2
          go_quiet (fail)
          go_wp2
          go_roundw
          case rel =>
            obtain ⟨hy, hs, hM, hBt, uZ, hk, hp, heq⟩ := HH.out
            refine ⟨Z ++ [(s + p + carry) % 65536], (s + p + carry) / 65536, ?_, ?_, ?_, ?_, ?_, ?_, ?_, ?_⟩
            · simp; omega
            · simp [hk]
            · go_num
            · exact ⟨by omega, by omega⟩
            · exact uZ.append (D.U16s.cons ⟨by omega, by omega⟩ D.U16s.nil)
            · subst hk; rw [← mid_set _ _ _ _ (by omega)]; exact (hM.drewN _).set _ _
            · exact (dr hBt).setCell (Nat.le_refl _) _
            · subst hk
              rw [D.val_snoc, List.length_append, List.length_singleton, D.pow_succ16, D.val_take_succ, D.val_take_succ, hy]
              have hgd : (S.drop i).getD Z.length 0 = s := by rw [List.getD_eq_getElem?_getD, List.getElem?_drop, ← List.getD_eq_getElem?_getD]; exact hs
              rw [hgd]
              have := D.add_step (65536 ^ Z.length) carry x y s (D.val Z) _ (s + p + carry) (by rw [hp]; omega) heq
              rw [this, Int.mul_add]; omega
          case measure => simp [intOf]; omega
        · have hkB : Z.length = B.length := by omega
          have hz2 : (S.take i ++ Z ++ S.drop (i + Z.length)).getD (i + B.length) 0 = 0 := by rw [mid_above (by omega) (by omega)]; exact HO.out.2.2.1 _ (Nat.le_refl _)
          have hcs := hM.cell (i + B.length) (by rw [mid_len _ _ _ (by omega)]; omega)
          rw [hz2] at hcs
          have hfs := hM.frozen (i + B.length)
          have HH : Hid (Arr .u64 42 wr w.heap.size (S.take i ++ Z ++ S.drop (i + Z.length)) ∧ Below w.heap.size w wr ∧ D.U16s Z ∧ Z.length = B.length ∧ D.U16 carry ∧ (S.take i ++ Z ++ S.drop (i + Z.length)).getD (i + B.length) 0 = 0 ∧
            D.val Z + 65536 ^ Z.length * carry = D.val ((S.drop i).take Z.length) + x * D.val (B.take Z.length)) := ⟨hM, hBt, uZ, hkB, ⟨uc1, uc2⟩, hz2, heq⟩
          rw [hkB]
          clear hM hBt uZ heq hz2 hkB
          go_wp2
          go_roundw
          case rel =>
            obtain ⟨hM, hBt, uZ, hkB, uc, hz2, heq⟩ := HH.out
            obtain ⟨_, hv, hz, _⟩ := HO.out
            have hfit : i + Z.length ≤ S.length := by omega
            refine ⟨i + 1, (S.take i ++ Z ++ S.drop (i + Z.length)).set (i + B.length) carry, by go_num, by omega, hM.set _ _, (D.mid_u16 uS uZ).set _ uc, by rw [List.length_set, mid_len _ _ _ hfit]; exact lS, hBt.setCell (Nat.le_refl _) _, ?_, fun j hj => ?_⟩
            · rw [D.val_set (by rw [mid_len _ _ _ hfit]; omega), hz2, Int.sub_zero, D.mid_val hfit, hv, D.val_take_succ, HX.out.1]
              rw [hkB, List.take_length] at heq
              have e1 : D.val Z - D.val ((S.drop i).take Z.length) = x * D.val B - 65536 ^ B.length * carry := by rw [hkB]; omega
              rw [e1, Int.pow_add]
              grind
            · rw [List.getD_eq_getElem?_getD, List.getElem?_set_ne (by omega), ← List.getD_eq_getElem?_getD, mid_above hfit (by omega)]; exact hz j (by omega)
          case measure => simp [intOf]; omega
    · have hin : i = A.length := by omega
      have hs := hS.sl64
      rw [lS] at hs
      have hs' : Sl .u64 wr (.slice (some ⟨w.heap.size, 0, none⟩) (A.length + B.length) (A.length + B.length)) S := hs
      have HV : Hid (D.val S = N) := by rw [hv, hin, List.take_length]; exact HN.out
      clear hv hz hS hs hin hA0 hB0
      go_wp2_with (go_at_call 66; refine (plain_sl _ S hs' uS (by omega) N HV.out).mono ?_; rintro e w' ⟨r, rfl, hr, rfl⟩)
      go_ret
      exact ⟨r, rfl, hr, hBt⟩
end Go.Proofs.Ythkheocggcmooaa
