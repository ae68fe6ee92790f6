/-
  Text: the kinds' characters.
-/
import Derived.Test.YtonekkfpadgdhaaDoorT4
import Derived.LoopN
import Derived.Laws.Runes
import Derived.WalkMore
namespace Go.Proofs.YtonekkfpadgdhaaDoor
open Go.RowKit
theorem wp_gen {P : Program} {c : Code} {Q : Exit → Act → World → Prop} {a : Act} {W : World} (R : World → Prop) (hR : R W) (h : ∀ W', R W' → Code.wp P c Q a W') : Code.wp P c Q a W := h W hR
def pG (c : Nat) : Bool := decide (65 ≤ c ∧ c ≤ 90)
def pS (c : Nat) : Bool := decide (97 ≤ c ∧ c ≤ 122)
def pN (c : Nat) : Bool := decide ((48 ≤ c ∧ c ≤ 57) ∨ c = 32)
def pI (c : Nat) : Bool := decide (c < 128)
def pV (c : Nat) : Bool := decide (32 ≤ c ∧ c ≤ 126)
def marks : List Nat := [39, 40, 41, 43, 44, 45, 46, 47, 58, 61, 63]
def pP (c : Nat) : Bool := pG c || pS c || pN c || decide (c ∈ marks)
theorem isSmall_any {w : World} (c : Nat) : Calls Tryd.prog 39 #[.int .i32 c] w fun e w' => e = .returned (.bool (pS c)) ∧ w = w' := by
  by_cases ha : 97 ≤ c
  · have ia : (97 : Int) ≤ c := by omega
    by_cases hb : c ≤ 122
    · have ib : (c : Int) ≤ 122 := by omega
      have : pS c = true := by unfold pS; simp; omega
      rw [this]
      clear this
      go_enter Tryd.func39, Tryd.ntmps39
      go_wp2
      go_ret
      exact ⟨rfl, rfl⟩
    · have ib : ¬ (c : Int) ≤ 122 := by omega
      have : pS c = false := by unfold pS; simp; omega
      rw [this]
      clear this
      go_enter Tryd.func39, Tryd.ntmps39
      go_wp2
      go_ret
      exact ⟨rfl, rfl⟩
  · have ia : ¬ (97 : Int) ≤ c := by omega
    have : pS c = false := by unfold pS; simp; omega
    rw [this]
    clear this
    go_enter Tryd.func39, Tryd.ntmps39
    go_wp2
    go_ret
    exact ⟨rfl, rfl⟩
theorem isVisible_any {w : World} (c : Nat) : Calls Tryd.prog 26 #[.int .i32 c] w fun e w' => e = .returned (.bool (pV c)) ∧ Below w.heap.size w w' := by
  by_cases ha : 32 ≤ c
  · have ia : (32 : Int) ≤ c := by omega
    by_cases hb : c ≤ 126
    · have ib : (c : Int) ≤ 126 := by omega
      have : pV c = true := by unfold pV; simp; omega
      rw [this]
      clear this
      go_enter Tryd.func26, Tryd.ntmps26
      go_wp2
      go_ret
      exact ⟨rfl, Below.refl _ _⟩
    · have ib : ¬ (c : Int) ≤ 126 := by omega
      have : pV c = false := by unfold pV; simp; omega
      rw [this]
      clear this
      go_enter Tryd.func26, Tryd.ntmps26
      go_wp2
      go_ret
      exact ⟨rfl, Below.refl _ _⟩
  · have ia : ¬ (32 : Int) ≤ c := by omega
    have : pV c = false := by unfold pV; simp; omega
    rw [this]
    clear this
    go_enter Tryd.func26, Tryd.ntmps26
    go_wp2
    go_ret
    exact ⟨rfl, Below.refl _ _⟩
theorem isIa5_any {w : World} (c : Nat) : Calls Tryd.prog 25 #[.int .i32 c] w fun e w' => e = .returned (.bool (pI c)) ∧ Below w.heap.size w w' := by
  by_cases ha : c < 128
  · have ia : (c : Int) < 128 := by omega
    have : pI c = true := by unfold pI; simp; omega
    rw [this]
    clear this
    go_enter Tryd.func25, Tryd.ntmps25
    go_wp2
    go_ret
    exact ⟨rfl, Below.refl _ _⟩
  · have ia : ¬ (c : Int) < 128 := by omega
    have : pI c = false := by unfold pI; simp; omega
    rw [this]
    clear this
    go_enter Tryd.func25, Tryd.ntmps25
    go_wp2
    go_ret
    exact ⟨rfl, Below.refl _ _⟩
theorem isNumeric_any {w : World} (c : Nat) : Calls Tryd.prog 23 #[.int .i32 c] w fun e w' => e = .returned (.bool (pN c)) ∧ w = w' := by
  by_cases ha : 48 ≤ c
  · have ia : (48 : Int) ≤ c := by omega
    by_cases hb : c ≤ 57
    · have ib : (c : Int) ≤ 57 := by omega
      have : pN c = true := by unfold pN; simp; omega
      rw [this]
      clear this
      go_enter Tryd.func23, Tryd.ntmps23
      go_wp2
      go_ret
      exact ⟨rfl, rfl⟩
    · have ib : ¬ (c : Int) ≤ 57 := by omega
      have ic : ((c : Int) == 32) = false := by simp; omega
      have : pN c = false := by unfold pN; simp; omega
      rw [this]
      clear this
      go_enter Tryd.func23, Tryd.ntmps23
      go_wp2
      go_ret
      exact ⟨rfl, rfl⟩
  · have ia : ¬ (48 : Int) ≤ c := by omega
    by_cases hc : c = 32
    · subst hc
      go_enter Tryd.func23, Tryd.ntmps23
      go_wp2
      go_ret
      exact ⟨rfl, rfl⟩
    · have ic : ((c : Int) == 32) = false := by simp; omega
      have : pN c = false := by unfold pN; simp; omega
      rw [this]
      clear this
      go_enter Tryd.func23, Tryd.ntmps23
      go_wp2
      go_ret
      exact ⟨rfl, rfl⟩
def mk : ByteArray := ⟨#[39, 40, 41, 43, 44, 45, 46, 47, 58, 61, 63]⟩
theorem mk_size : mk.size = 11 := rfl
theorem mk_all : ∀ x ∈ mk.data.toList, x.toNat < 128 := by decide
theorem mk_low (i : Nat) (h : i < mk.size) : (mk[i]'h).toNat < 128 := mk_all _ (by show mk.data[i]'h ∈ _; simp)
set_option maxHeartbeats 2000000 in
set_option maxRecDepth 100000 in
theorem IndexRune_err {w : World} : Calls Tryd.prog 48 #[.string mk, .int .i32 65533] w fun e w' => e = .returned (.int .i64 (-1)) ∧ Below w.heap.size w w' := by
  have hz := mk_size
  have hl := mk_low
  obtain ⟨M, hM⟩ : ∃ M, mk = M := ⟨_, rfl⟩
  rw [hM] at hz
  have HL : Hid (∀ (i : Nat) (h : i < M.size), (M[i]'h).toNat < 128) := hM ▸ hl
  rw [hM]
  clear hM hl
  have HZ : Hid (M.size = 11) := hz
  clear hz
  go_enter Tryd.func48, Tryd.ntmps48
  go_wp2_with fail
  go_loopw [] (fun wr => ∃ pos : Nat, pos ≤ 11 ∧ wr.heap[w.heap.size]? = some (.stringIter M pos) ∧ Below w.heap.size w wr) (fun wr => 11 - wr.iterPos w.heap.size)
  case atStart => exact ⟨0, by omega, World.iter_heap w M 0, al1 _⟩
  case round =>
    obtain ⟨pos, hp, hit, hb⟩ := hrel
    by_cases hlt : pos < 11
    · have hps : pos < M.size := by rw [HZ.out]; exact hlt
      have hnx := fun ty => Lib.run_next_ascii_at (P := Tryd.prog) wr w.heap.size M pos ty hit hps (HL.out pos hps)
      have hx := HL.out pos hps
      obtain ⟨x, hX⟩ : ∃ x, (M[pos]'hps).toNat = x := ⟨_, rfl⟩
      rw [hX] at hnx hx
      clear hX
      have nx : ¬ (x : Int) = 65533 := by omega
      have hit2 := Lib.iterAt_heap wr w.heap.size M pos (pos + 1) hit
      have hb2 := Lib.below_iterAt hb (k := w.heap.size) (Nat.le_refl _) M (pos + 1)
      have HM : Hid (wr.iterPos w.heap.size = pos) := by show _ = _; unfold World.iterPos; rw [hit]
      have HX : Hid ((wr.iterAt w.heap.size M (pos + 1)).heap[w.heap.size]? = some (.stringIter M (pos + 1)) ∧ Below w.heap.size w (wr.iterAt w.heap.size M (pos + 1))) := ⟨hit2, hb2⟩
      clear hit hb hit2 hb2 hps
      go_wp2
      go_roundw
      case rel => exact ⟨pos + 1, by omega, HX.out.1, HX.out.2⟩
      case measure =>
        have e : (wr.iterAt w.heap.size M (pos + 1)).iterPos w.heap.size = pos + 1 := by unfold World.iterPos; rw [HX.out.1]
        rw [e, HM.out]; omega
    · have hps : ¬ pos < M.size := by rw [HZ.out]; exact hlt
      have hnx := fun ty => Lib.run_next_end_at (P := Tryd.prog) wr w.heap.size M pos ty hit hps
      have HX : Hid (Below w.heap.size w wr) := hb
      clear hit hb hps
      go_wp2
      go_ret
      exact ⟨rfl, HX.out⟩
theorem ib_none : ∀ (l : List UInt8) (c : UInt8), (∀ x ∈ l, x.toNat < 128) → 128 ≤ c.toNat → Lib.indexByte l c = -1
  | [], _, _, _ => rfl
  | b :: l, c, h, hc => by
    have hb : (b == c) = false := by
      rw [beq_eq_false_iff_ne]; rintro rfl
      have := h b (by simp); omega
    unfold Lib.indexByte
    rw [hb, ib_none l c (fun x hx => h x (by simp [hx])) hc]
    rfl
end Go.Proofs.YtonekkfpadgdhaaDoor
