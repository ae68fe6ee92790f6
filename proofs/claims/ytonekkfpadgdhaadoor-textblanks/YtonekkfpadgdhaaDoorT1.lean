/-
  Text: a strings.Builder of the call's own, written to.
-/
import Derived.Test.YtonekkfpadgdhaaDoorE0n
import Derived.Test.YtonekkfpadgdhaaDoorShelf
import Derived.Lib.FrozenHead2
import Derived.Lib.OthersKept
namespace Go.Proofs.YtonekkfpadgdhaaDoor
open Go.RowKit
/-- A builder in block b that holds the bytes l. -/
def Bld (B b : Nat) (l : List UInt8) (w : World) : Prop := Lib.IsBuilderF 47 5 B b (Lib.byteCells l) w
def Kpt (b : Nat) (w w' : World) : Prop := Lib.OthersKept 5 (some b) w w'
theorem Tryd.undPB : Tryd.prog.underlying 45 = some (.pointer 47) := by kernel_rfl
theorem Tryd.undUP : Tryd.prog.underlying 72 = some .unsafePointer := by kernel_rfl
theorem Tryd.infB : (Tryd.prog.info? 47).map (·.size) = some 2 := by kernel_rfl
theorem Tryd.liesB : liesAt Tryd.prog Tryd.prog.depth 47 (2 / Tryd.prog.cellsOf 47) 0 47 1 = true := by kernel_rfl
set_option maxHeartbeats 1000000 in
set_option maxRecDepth 100000 in
theorem copyCheck_k {w : World} (B b : Nat) (bs : List Value) (h : Lib.IsBuilderF 47 5 B b bs w) :
    Calls Tryd.prog 44 #[.pointer (some ⟨b, 0, none⟩)] w fun e w' => e = .returned (.tuple #[]) ∧ Lib.BuilderAtF 47 5 B b (.pointer (some ⟨b, 0, none⟩)) bs w' ∧ Below B w w' ∧ Kpt b w w' := by
  obtain ⟨j, hj, hjs⟩ := Option.map_eq_some_iff.1 Tryd.infB
  rcases h with h | h
  · have h0 := h.cell0
    have hsh := h.shape
    have hfz := h.frozen0
    have HH : Hid (Lib.BuilderAtF 47 5 B b (.pointer none) bs w) := h
    clear h
    go_enter Tryd.func44, Tryd.ntmps44
    go_wp2
    rw [Lib.run_to_unsafe w ⟨b, 0, none⟩ Tryd.undPB Tryd.undUP hj (by rw [hjs]; decide) hsh (Nat.zero_lt_succ 1)]
    simp only [Result.andThen]
    rw [Oper.upon_value]
    go_wp2
    rw [run_callFunc_extern Tryd.func50 (by kernel_rfl) (by kernel_rfl) (by kernel_rfl) (e := Extern.AbiNoEscape.same) (by kernel_rfl)]
    rw [Lib.run_noEscape]
    simp only [Result.andThen]
    rw [Oper.upon_value]
    go_wp2
    rw [Lib.run_from_unsafe w ⟨b, 0, none⟩ Tryd.undUP Tryd.undPB hj hsh Tryd.liesB]
    simp only [Result.andThen]
    rw [Oper.upon_value]
    go_wp2
    go_end0
    have h := HH.out
    exact ⟨rfl, h.used _, (Below.refl B w).setCell (p := ⟨b, 0, none⟩) h.1 _, (Lib.OthersKept.refl _ _ w).setCell ⟨b, 0, none⟩ rfl _⟩
  · have h0 := h.cell0
    have HH : Hid (Lib.BuilderAtF 47 5 B b (.pointer (some ⟨b, 0, none⟩)) bs w) := h
    clear h
    go_enter Tryd.func44, Tryd.ntmps44
    go_wp2
    rw [Lib.run_neq_ptr_same w _ Tryd.undPB hj]
    go_wp2
    go_end0
    exact ⟨rfl, HH.out, Below.refl B _, Lib.OthersKept.refl _ _ _⟩
end Go.Proofs.YtonekkfpadgdhaaDoor
