/-
  Text: IndexRune at a character beyond ASCII.
-/
import Derived.Test.YtonekkfpadgdhaaDoorT5
namespace Go.Proofs.YtonekkfpadgdhaaDoor
open Go.RowKit
set_option maxHeartbeats 2000000 in
set_option maxRecDepth 100000 in
theorem IndexRune_high {w : World} (R : Nat) (h0 : 128 ≤ R) (h1 : R ≤ 1114111) (hv : Lib.validRune R = true) (hE : R ≠ 65533) : Calls Tryd.prog 48 #[.string mk, .int .i32 R] w fun e w' => e = .returned (.int .i64 (-1)) ∧ Below w.heap.size w w' := by
  have z0 : ¬ (R : Int) < 128 := by omega
  have ze : ¬ (R : Int) = 65533 := by omega
  have hz := mk_size
  obtain ⟨M, hM⟩ : ∃ M, mk = M := ⟨_, rfl⟩
  rw [hM] at hz
  have HL : Hid (∀ x ∈ M.data.toList, x.toNat < 128) := hM ▸ mk_all
  rw [hM]
  clear hM
  have HV : Hid (∀ w, Calls Tryd.prog 41 #[.int .i32 R] w fun e w' => e = .returned (.bool true) ∧ w = w') := fun w => by
    have := Tryd.utf8_ValidRune R w
    rw [hv] at this
    exact this.mono fun e w' h => ⟨h.1, h.2.symm⟩
  have hv' := hv
  have hv' := hv
  clear hv
  have hvv : Utf8.valid (R : Int) = true := by rw [validRune_eq]; exact hv'
  have hEf := encode_facts (R : Int) hvv (by omega)
  clear hvv hv'
  obtain ⟨E, hEq⟩ : ∃ E, Utf8.encode (R : Int) = E := ⟨_, rfl⟩
  rw [hEq] at hEf
  obtain ⟨L, hL⟩ : ∃ L, E.size = L + 1 := ⟨E.size - 1, by omega⟩
  have hL1 : 1 ≤ L := by omega
  have hL3 : L ≤ 3 := by omega
  have hy := hEf.2.2 (by omega)
  have hLs : L < E.size := by omega
  obtain ⟨y, hY⟩ : ∃ y, E[L]'hLs = y := ⟨_, rfl⟩
  have y128 : 128 ≤ y.toNat := by
    rw [← hY]
    have e : E.size - 1 = L := by omega
    simpa [e] using hy
  have hLm : L < M.size := by omega
  obtain ⟨x, hX⟩ : ∃ x, M[L]'hLm = x := ⟨_, rfl⟩
  have x128 : x.toNat < 128 := by rw [← hX]; exact HL.out _ (by show M.data[L]'hLm ∈ _; simp)
  clear hEf hy
  have hcv : ∀ w, Sem.run Tryd.prog (convert 21 9 (.int .i32 R)) w = .ok (.string E) w := fun w => by
    rw [run_convert_int_string w _ _ _ _ (by kernel_rfl) Tryd.str, hEq]
  clear hEq
  have HH : Hid (E.size = L + 1 ∧ M.size = 11) := ⟨hL, hz⟩
  have zI : (M.size : Int) = 11 := by omega
  have eI : (E.size : Int) = L + 1 := by omega
  have HIB : Hid (∀ w, Calls Tryd.prog 53 #[.string (M.extract (L + 1) 11), .int .u8 y.toNat] w fun e w' => e = .returned (.int .i64 (-1)) ∧ w' = w) := fun w => by
    have := Tryd.strings_IndexByte (M.extract (L + 1) 11) y.toNat w
    rw [ib_none _ _ (fun b hb => HL.out b (mem_extract hb)) (by simp; omega)] at this
    exact this
  have HF : Hid ((∀ w, Sem.run Tryd.prog (convert 21 9 (.int .i32 R)) w = .ok (.string E) w) ∧ (M.size : Int) = 11 ∧ (E.size : Int) = L + 1 ∧ 1 ≤ L ∧ L ≤ 3 ∧ x.toNat < 128 ∧ 128 ≤ y.toNat) := ⟨hcv, zI, eI, hL1, hL3, x128, y128⟩
  have HXY : Hid ((M[L]'hLm) = x ∧ (E[L]'hLs) = y) := ⟨hX, hY⟩
  clear hcv zI eI hL1 hL3 x128 y128 HL hv' hX hY hL hz
  go_enter Tryd.func48, Tryd.ntmps48
  go_wp2_with fail
  refine (HV.out _).mono ?_
  rintro e w' ⟨rfl, rfl⟩
  go_wp2_with fail
  refine wp_scope_straight ?_
  have hcv := HF.out.1
  go_upto_region 2 with (fail)
  clear hcv
  have eI := HF.out.2.2.1
  have l3 : (L : Int) ≤ 3 := by have := HF.out.2.2.2.2.1; omega
  go_upto_region 5 with (fail)
  go_wp2_with fail
  refine wp_loop_rounds 1 ?_
  rw [rounds_succ]
  have zI := HF.out.2.1
  have l1 : (L : Int) < 11 := by have := HF.out.2.2.2.2.1; omega
  go_upto_region 6 with (fail)
  have hX := HXY.out.1
  have hY := HXY.out.2
  have neB : ((x.toNat : Int) != (y.toNat : Int)) = true := by have := HF.out.2.2.2.2.2; simp; omega
  have m1 : (L : Int) < (M.size : Int) := by omega
  have m2 : (L : Int) < (E.size : Int) := by omega
  clear eI l1 zI
  refine wp_scope_straight ?_
  go_wp2_with fail
  go_quiet (fail)
  have l11 : (L : Int) + 1 ≤ (M.size : Int) := by omega
  have hsz : M.size = 11 := HH.out.2
  have hw : IntKind.i64.wrap ((L : Int) + 1) = (L : Int) + 1 := wrap_small _ (by omega) (by omega)
  have hp0 : 0 ≤ (L : Int) + 1 := by omega
  have hp1 : (L : Int) + 1 ≤ 11 := by omega
  have hpt : ((L : Int) + 1).toNat = L + 1 := by omega
  go_wp2_with fail
  refine wp_gen (fun W => Below w.heap.size w W) ⟨rfl, rfl, rfl, Nat.le_refl _, fun _ _ => rfl⟩ ?_
  intro w1 hb1
  go_quiet ((go_at_call 53; exact Calls.quiet_of_same (HIB.out _)))
  go_wp2
  rw [Exit.noGoto_ret]
  go_wp2
  rw [Exit.noGoto_ret]
  go_wp2
  go_ret
  exact ⟨rfl, hb1.trans ⟨rfl, rfl, rfl, Nat.le_refl _, fun _ _ => rfl⟩⟩
end Go.Proofs.YtonekkfpadgdhaaDoor
