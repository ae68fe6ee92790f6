/-
  Text: the kinds' characters.
-/
import Derived.LoopN
import Derived.Laws.Runes
import Derived.WalkMore
import Derived.Test.YtkjdihikcgpababDoorK19
namespace Go.Proofs.YtkjdihikcgpababDoor
open Go.RowKit
theorem wp_gen {P : Program} {c : Code} {Q : Exit → Act → World → Prop} {a : Act} {W : World} (R : World → Prop) (hR : R W) (h : ∀ W', R W' → Code.wp P c Q a W') : Code.wp P c Q a W := h W hR
def pG (c : Nat) : Bool := decide (65 ≤ c ∧ c ≤ 90)
def pS (c : Nat) : Bool := decide (97 ≤ c ∧ c ≤ 122)
def pN (c : Nat) : Bool := decide ((48 ≤ c ∧ c ≤ 57) ∨ c = 32)
def pI (c : Nat) : Bool := decide (c < 128)
def pV (c : Nat) : Bool := decide (32 ≤ c ∧ c ≤ 126)
def marks : List Nat := [39, 40, 41, 43, 44, 45, 46, 47, 58, 61, 63]
def pP (c : Nat) : Bool := pG c || pS c || pN c || decide (c ∈ marks)
theorem isSmall_any {w : World} (c : Nat) : Calls Tryd.prog 72 #[.int .i32 c] w fun e w' => e = .returned (.bool (pS c)) ∧ w = w' := by
  by_cases ha : 97 ≤ c
  · have ia : (97 : Int) ≤ c := by omega
    by_cases hb : c ≤ 122
    · have ib : (c : Int) ≤ 122 := by omega
      have : pS c = true := by unfold pS; simp; omega
      rw [this]
      clear this
      go_enter Tryd.func72, Tryd.ntmps72
      go_wp2
      go_ret
      exact ⟨rfl, rfl⟩
    · have ib : ¬ (c : Int) ≤ 122 := by omega
      have : pS c = false := by unfold pS; simp; omega
      rw [this]
      clear this
      go_enter Tryd.func72, Tryd.ntmps72
      go_wp2
      go_ret
      exact ⟨rfl, rfl⟩
  · have ia : ¬ (97 : Int) ≤ c := by omega
    have : pS c = false := by unfold pS; simp; omega
    rw [this]
    clear this
    go_enter Tryd.func72, Tryd.ntmps72
    go_wp2
    go_ret
    exact ⟨rfl, rfl⟩
theorem isVisible_any {w : World} (c : Nat) : Calls Tryd.prog 65 #[.int .i32 c] w fun e w' => e = .returned (.bool (pV c)) ∧ Below w.heap.size w w' := by
  by_cases ha : 32 ≤ c
  · have ia : (32 : Int) ≤ c := by omega
    by_cases hb : c ≤ 126
    · have ib : (c : Int) ≤ 126 := by omega
      have : pV c = true := by unfold pV; simp; omega
      rw [this]
      clear this
      go_enter Tryd.func65, Tryd.ntmps65
      go_wp2
      go_ret
      exact ⟨rfl, Below.refl _ _⟩
    · have ib : ¬ (c : Int) ≤ 126 := by omega
      have : pV c = false := by unfold pV; simp; omega
      rw [this]
      clear this
      go_enter Tryd.func65, Tryd.ntmps65
      go_wp2
      go_ret
      exact ⟨rfl, Below.refl _ _⟩
  · have ia : ¬ (32 : Int) ≤ c := by omega
    have : pV c = false := by unfold pV; simp; omega
    rw [this]
    clear this
    go_enter Tryd.func65, Tryd.ntmps65
    go_wp2
    go_ret
    exact ⟨rfl, Below.refl _ _⟩
theorem isIa5_any {w : World} (c : Nat) : Calls Tryd.prog 64 #[.int .i32 c] w fun e w' => e = .returned (.bool (pI c)) ∧ Below w.heap.size w w' := by
  by_cases ha : c < 128
  · have ia : (c : Int) < 128 := by omega
    have : pI c = true := by unfold pI; simp; omega
    rw [this]
    clear this
    go_enter Tryd.func64, Tryd.ntmps64
    go_wp2
    go_ret
    exact ⟨rfl, Below.refl _ _⟩
  · have ia : ¬ (c : Int) < 128 := by omega
    have : pI c = false := by unfold pI; simp; omega
    rw [this]
    clear this
    go_enter Tryd.func64, Tryd.ntmps64
    go_wp2
    go_ret
    exact ⟨rfl, Below.refl _ _⟩
theorem isNumeric_any {w : World} (c : Nat) : Calls Tryd.prog 62 #[.int .i32 c] w fun e w' => e = .returned (.bool (pN c)) ∧ w = w' := by
  by_cases ha : 48 ≤ c
  · have ia : (48 : Int) ≤ c := by omega
    by_cases hb : c ≤ 57
    · have ib : (c : Int) ≤ 57 := by omega
      have : pN c = true := by unfold pN; simp; omega
      rw [this]
      clear this
      go_enter Tryd.func62, Tryd.ntmps62
      go_wp2
      go_ret
      exact ⟨rfl, rfl⟩
    · have ib : ¬ (c : Int) ≤ 57 := by omega
      have ic : ((c : Int) == 32) = false := by simp; omega
      have : pN c = false := by unfold pN; simp; omega
      rw [this]
      clear this
      go_enter Tryd.func62, Tryd.ntmps62
      go_wp2
      go_ret
      exact ⟨rfl, rfl⟩
  · have ia : ¬ (48 : Int) ≤ c := by omega
    by_cases hc : c = 32
    · subst hc
      go_enter Tryd.func62, Tryd.ntmps62
      go_wp2
      go_ret
      exact ⟨rfl, rfl⟩
    · have ic : ((c : Int) == 32) = false := by simp; omega
      have : pN c = false := by unfold pN; simp; omega
      rw [this]
      clear this
      go_enter Tryd.func62, Tryd.ntmps62
      go_wp2
      go_ret
      exact ⟨rfl, rfl⟩
def mk : ByteArray := ⟨#[39, 40, 41, 43, 44, 45, 46, 47, 58, 61, 63]⟩
theorem mk_size : mk.size = 11 := rfl
theorem mk_all : ∀ x ∈ mk.data.toList, x.toNat < 128 := by decide
theorem mk_low (i : Nat) (h : i < mk.size) : (mk[i]'h).toNat < 128 := mk_all _ (by show mk.data[i]'h ∈ _; simp)
set_option maxHeartbeats 2000000 in
set_option maxRecDepth 100000 in
theorem IndexRune_err {w : World} : Calls Tryd.prog 81 #[.string mk, .int .i32 65533] w fun e w' => e = .returned (.int .i64 (-1)) ∧ Below w.heap.size w w' := by
  have hz := mk_size
  have hl := mk_low
  obtain ⟨M, hM⟩ : ∃ M, mk = M := ⟨_, rfl⟩
  rw [hM] at hz
  have HL : Hid (∀ (i : Nat) (h : i < M.size), (M[i]'h).toNat < 128) := hM ▸ hl
  rw [hM]
  clear hM hl
  have HZ : Hid (M.size = 11) := hz
  clear hz
  go_enter Tryd.func81, Tryd.ntmps81
  go_wp2_with fail
  go_loopw [] (fun wr => ∃ pos : Nat, pos ≤ 11 ∧ wr.heap[w.heap.size]? = some (.stringIter M pos) ∧ Below w.heap.size w wr) (fun wr => 11 - wr.iterPos w.heap.size)
  case atStart => exact ⟨0, by omega, World.iter_heap w M 0, al1 _⟩
  case round =>
    obtain ⟨pos, hp, hit, hb⟩ := hrel
    by_cases hlt : pos < 11
    · have hps : pos < M.size := by rw [HZ.out]; exact hlt
      have hnx := fun ty => Lib.run_next_ascii_at (P := Tryd.prog) wr w.heap.size M pos ty hit hps (HL.out pos hps)
      have hx := HL.out pos hps
      obtain ⟨x, hX⟩ : ∃ x, (M[pos]'hps).toNat = x := ⟨_, rfl⟩
      rw [hX] at hnx hx
      clear hX
      have nx : ¬ (x : Int) = 65533 := by omega
      have hit2 := Lib.iterAt_heap wr w.heap.size M pos (pos + 1) hit
      have hb2 := Lib.below_iterAt hb (k := w.heap.size) (Nat.le_refl _) M (pos + 1)
      have HM : Hid (wr.iterPos w.heap.size = pos) := by show _ = _; unfold World.iterPos; rw [hit]
      have HX : Hid ((wr.iterAt w.heap.size M (pos + 1)).heap[w.heap.size]? = some (.stringIter M (pos + 1)) ∧ Below w.heap.size w (wr.iterAt w.heap.size M (pos + 1))) := ⟨hit2, hb2⟩
      clear hit hb hit2 hb2 hps
      go_wp2
      go_roundw
      case rel => exact ⟨pos + 1, by omega, HX.out.1, HX.out.2⟩
      case measure =>
        have e : (wr.iterAt w.heap.size M (pos + 1)).iterPos w.heap.size = pos + 1 := by unfold World.iterPos; rw [HX.out.1]
        rw [e, HM.out]; omega
    · have hps : ¬ pos < M.size := by rw [HZ.out]; exact hlt
      have hnx := fun ty => Lib.run_next_end_at (P := Tryd.prog) wr w.heap.size M pos ty hit hps
      have HX : Hid (Below w.heap.size w wr) := hb
      clear hit hb hps
      go_wp2
      go_ret
      exact ⟨rfl, HX.out⟩
theorem ib_none : ∀ (l : List UInt8) (c : UInt8), (∀ x ∈ l, x.toNat < 128) → 128 ≤ c.toNat → Lib.indexByte l c = -1
  | [], _, _, _ => rfl
  | b :: l, c, h, hc => by
    have hb : (b == c) = false := by
      rw [beq_eq_false_iff_ne]; rintro rfl
      have := h b (by simp); omega
    unfold Lib.indexByte
    rw [hb, ib_none l c (fun x hx => h x (by simp [hx])) hc]
    rfl
end Go.Proofs.YtkjdihikcgpababDoor
/-
  Text: IndexRune at a character beyond ASCII.
-/
namespace Go.Proofs.YtkjdihikcgpababDoor
open Go.RowKit
set_option maxHeartbeats 2000000 in
set_option maxRecDepth 100000 in
theorem IndexRune_high {w : World} (R : Nat) (h0 : 128 ≤ R) (h1 : R ≤ 1114111) (hv : Lib.validRune R = true) (hE : R ≠ 65533) : Calls Tryd.prog 81 #[.string mk, .int .i32 R] w fun e w' => e = .returned (.int .i64 (-1)) ∧ Below w.heap.size w w' := by
  have z0 : ¬ (R : Int) < 128 := by omega
  have ze : ¬ (R : Int) = 65533 := by omega
  have hz := mk_size
  obtain ⟨M, hM⟩ : ∃ M, mk = M := ⟨_, rfl⟩
  rw [hM] at hz
  have HL : Hid (∀ x ∈ M.data.toList, x.toNat < 128) := hM ▸ mk_all
  rw [hM]
  clear hM
  have HV : Hid (∀ w, Calls Tryd.prog 74 #[.int .i32 R] w fun e w' => e = .returned (.bool true) ∧ w = w') := fun w => by
    have := Tryd.utf8_ValidRune R w
    rw [hv] at this
    exact this.mono fun e w' h => ⟨h.1, h.2.symm⟩
  have hv' := hv
  have hv' := hv
  clear hv
  have hvv : Utf8.valid (R : Int) = true := by rw [validRune_eq]; exact hv'
  have hEf := encode_facts (R : Int) hvv (by omega)
  clear hvv hv'
  obtain ⟨E, hEq⟩ : ∃ E, Utf8.encode (R : Int) = E := ⟨_, rfl⟩
  rw [hEq] at hEf
  obtain ⟨L, hL⟩ : ∃ L, E.size = L + 1 := ⟨E.size - 1, by omega⟩
  have hL1 : 1 ≤ L := by omega
  have hL3 : L ≤ 3 := by omega
  have hy := hEf.2.2 (by omega)
  have hLs : L < E.size := by omega
  obtain ⟨y, hY⟩ : ∃ y, E[L]'hLs = y := ⟨_, rfl⟩
  have y128 : 128 ≤ y.toNat := by
    rw [← hY]
    have e : E.size - 1 = L := by omega
    simpa [e] using hy
  have hLm : L < M.size := by omega
  obtain ⟨x, hX⟩ : ∃ x, M[L]'hLm = x := ⟨_, rfl⟩
  have x128 : x.toNat < 128 := by rw [← hX]; exact HL.out _ (by show M.data[L]'hLm ∈ _; simp)
  clear hEf hy
  have hcv : ∀ w, Sem.run Tryd.prog (convert 21 9 (.int .i32 R)) w = .ok (.string E) w := fun w => by
    rw [run_convert_int_string w _ _ _ _ (by kernel_rfl) Tryd.str, hEq]
  clear hEq
  have HH : Hid (E.size = L + 1 ∧ M.size = 11) := ⟨hL, hz⟩
  have zI : (M.size : Int) = 11 := by omega
  have eI : (E.size : Int) = L + 1 := by omega
  have HIB : Hid (∀ w, Calls Tryd.prog 88 #[.string (M.extract (L + 1) 11), .int .u8 y.toNat] w fun e w' => e = .returned (.int .i64 (-1)) ∧ w' = w) := fun w => by
    have := Tryd.strings_IndexByte (M.extract (L + 1) 11) y.toNat w
    rw [ib_none _ _ (fun b hb => HL.out b (mem_extract hb)) (by simp; omega)] at this
    exact this
  have HF : Hid ((∀ w, Sem.run Tryd.prog (convert 21 9 (.int .i32 R)) w = .ok (.string E) w) ∧ (M.size : Int) = 11 ∧ (E.size : Int) = L + 1 ∧ 1 ≤ L ∧ L ≤ 3 ∧ x.toNat < 128 ∧ 128 ≤ y.toNat) := ⟨hcv, zI, eI, hL1, hL3, x128, y128⟩
  have HXY : Hid ((M[L]'hLm) = x ∧ (E[L]'hLs) = y) := ⟨hX, hY⟩
  clear hcv zI eI hL1 hL3 x128 y128 HL hv' hX hY hL hz
  go_enter Tryd.func81, Tryd.ntmps81
  go_wp2_with fail
  refine (HV.out _).mono ?_
  rintro e w' ⟨rfl, rfl⟩
  go_wp2_with fail
  refine wp_scope_straight ?_
  have hcv := HF.out.1
  go_upto_region 2 with (fail)
  clear hcv
  have eI := HF.out.2.2.1
  have l3 : (L : Int) ≤ 3 := by have := HF.out.2.2.2.2.1; omega
  go_upto_region 5 with (fail)
  go_wp2_with fail
  refine wp_loop_rounds 1 ?_
  rw [rounds_succ]
  have zI := HF.out.2.1
  have l1 : (L : Int) < 11 := by have := HF.out.2.2.2.2.1; omega
  go_upto_region 6 with (fail)
  have hX := HXY.out.1
  have hY := HXY.out.2
  have neB : ((x.toNat : Int) != (y.toNat : Int)) = true := by have := HF.out.2.2.2.2.2; simp; omega
  have m1 : (L : Int) < (M.size : Int) := by omega
  have m2 : (L : Int) < (E.size : Int) := by omega
  clear eI l1 zI
  refine wp_scope_straight ?_
  go_wp2_with fail
  go_quiet (fail)
  have l11 : (L : Int) + 1 ≤ (M.size : Int) := by omega
  have hsz : M.size = 11 := HH.out.2
  have hw : IntKind.i64.wrap ((L : Int) + 1) = (L : Int) + 1 := wrap_small _ (by omega) (by omega)
  have hp0 : 0 ≤ (L : Int) + 1 := by omega
  have hp1 : (L : Int) + 1 ≤ 11 := by omega
  have hpt : ((L : Int) + 1).toNat = L + 1 := by omega
  go_wp2_with fail
  refine wp_gen (fun W => Below w.heap.size w W) ⟨rfl, rfl, rfl, Nat.le_refl _, fun _ _ => rfl⟩ ?_
  intro w1 hb1
  go_quiet ((go_at_call 88; exact Calls.quiet_of_same (HIB.out _)))
  go_wp2
  rw [Exit.noGoto_ret]
  go_wp2
  rw [Exit.noGoto_ret]
  go_wp2
  go_ret
  exact ⟨rfl, hb1.trans ⟨rfl, rfl, rfl, Nat.le_refl _, fun _ _ => rfl⟩⟩
end Go.Proofs.YtkjdihikcgpababDoor
