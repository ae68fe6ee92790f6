/-
  Der: decimal digits of any number appended; an object identifier of any bytes.
-/
import Derived.Test.YtndcpjnfdgojkaaDoorE71
import Derived.Test.YtndcpjnfdgojkaaDoorApZ
import Derived.Test.YtndcpjnfdgojkaaDoorShelf
import Derived.Lib.ItoaLen
namespace Go.Proofs.YtndcpjnfdgojkaaDoor
open Go.RowKit
abbrev P10 (w : World) : Prop := Lib.TabIs Tryd.prog w "internal/strconv.uint64pow10" .u64 Lib.pow10Tab
theorem Tryd.g_pw : Tryd.prog.globalNamed "internal/strconv.uint64pow10" = some 0 := by kernel_rfl
theorem P10.below {w w' : World} (h : P10 w) (hb : Below w.heap.size w w') : P10 w' := by
  have hc := h.cell Tryd.g_pw 0 (by decide)
  have hlt : 0 < w.heap.size := by
    rcases Nat.lt_or_ge 0 w.heap.size with h' | h'
    · exact h'
    · unfold World.cell? at hc
      rw [Array.getElem?_eq_none h'] at hc
      cases hc
  unfold P10 Lib.TabIs World.var? at *
  rw [Tryd.g_pw] at h ⊢
  rw [← h]
  simp only [Option.bind_some]
  rw [hb.block _ hlt]
/-- The digits of a number, as integers. -/
def decI (u : Nat) : List Int := (Lib.decDigits u).map fun b => (b.toNat : Int)
theorem MRow.own {B : Nat} {w : World} {v : Value} {n : Nat} {xs : List Value} (h : MRow 1 5 B w v n xs) : w.ownsRow B 5 1 v n xs := by
  obtain ⟨h0, h⟩ := h
  refine ⟨h0, ?_⟩
  rcases h with h | ⟨b, S, c, rfl, h1, hA, h2, h3, h4, h5⟩
  · exact .inl h
  · exact .inr ⟨b, c, S.toArray, rfl, h1, hA, h3, h5, by simpa using h2, by simpa using h4⟩
theorem MRow.ofOwn {B : Nat} {w : World} {v : Value} {n : Nat} {xs : List Value} (h : w.ownsRow B 5 1 v n xs) : MRow 1 5 B w v n xs := by
  obtain ⟨h0, h⟩ := h
  refine ⟨h0, ?_⟩
  rcases h with h | ⟨b, c, cur, rfl, h1, hA, h3, h5, h2, h4⟩
  · exact .inl h
  · exact .inr ⟨b, cur.toList, c, rfl, h1, by unfold Blk; simpa using hA, by simpa using h2, h3, h4, h5⟩
theorem decI_cells (u : Nat) : Lib.byteCells (Lib.decDigits u) = (decI u).map (Value.int .u8) := by
  unfold Lib.byteCells decI; rw [List.map_map]; rfl
theorem decI_len (u : Nat) : (decI u).length = (Lib.decDigits u).length := by unfold decI; rw [List.length_map]
set_option maxHeartbeats 1000000 in
theorem AppU_any {w : World} (v : Value) (B u : Nat) (X : List Int) (hX : MRow 1 5 B w v X.length (X.map (Value.int .u8))) (hu : u < 18446744073709551616) (hl : X.length ≤ 1000000) (hB : B ≤ w.heap.size) (hT : P10 w) :
    Calls Tryd.prog 46 #[v, .int .u64 u, .int .i64 10] w fun e w' => ∃ r, e = .returned r ∧ MRow 1 5 B w' r (X ++ decI u).length ((X ++ decI u).map (Value.int .u8)) ∧ Below B w w' := by
  have HC : Hid (Calls Tryd.prog 64 #[v, .int .u64 u, .int .i64 10] w fun e w' => ∃ r, e = .returned r ∧ MRow 1 5 B w' r (X ++ decI u).length ((X ++ decI u).map (Value.int .u8)) ∧ Below B w w') := by
    refine (Tryd.internal_strconv_AppendUint_10 B X.length u hu v _ w hX.own hB (by omega) hT).mono ?_
    rintro e w' ⟨r, rfl, ho, hb, _⟩
    refine ⟨r, rfl, ?_, hb⟩
    have := MRow.ofOwn ho
    rw [decI_cells] at this
    rw [List.length_append, decI_len, List.map_append]
    exact this
  clear hX hT
  go_enter Tryd.func46, Tryd.ntmps46
  go_wp2_with fail
  refine HC.out.mono ?_
  rintro e w1 ⟨r, rfl, hr, hb⟩
  go_wp2
  go_ret
  exact ⟨_, rfl, hr, hb⟩
end Go.Proofs.YtndcpjnfdgojkaaDoor
