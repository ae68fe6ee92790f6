/-
  Der: the law DerBack.
-/
import Derived.Test.YtndcpjnfdgojkaaDoorE60
import Derived.Test.YtndcpjnfdgojkaaDoorE52
import Derived.Test.YtndcpjnfdgojkaaDoorE56a
namespace Go.Proofs.YtndcpjnfdgojkaaDoor
open Go.RowKit
theorem Grew.onl {w w' : World} {v : Value} {ys : List Int} (hg : Grew .u8 5 w w' v ys) : Onl (fun j => blkOf v = some j) w w' := by
  rcases hg with hg | ⟨b, n, S, rfl, hA, hU, hle, hA'⟩
  · exact Onl.ofBelow hg
  · exact Onl.ofUpd hU (.inl rfl)
theorem u8s_cons {x : Int} {xs : List Int} (h : U8 x) (hs : U8s xs) : U8s (x :: xs) := by
  intro y hy
  rcases List.mem_cons.1 hy with rfl | hy
  · exact h
  · exact hs y hy
theorem tp_u8 (n k : Nat) : ∀ i, U8s (tp n k i)
  | 0 => nil_u8
  | i + 1 => (tp_u8 n k i).append (u8s_cons ⟨by unfold gr; omega, by unfold gr; omega⟩ nil_u8)
theorem tb_u8 (n c : Nat) : ∀ i, U8s (tb n c i)
  | 0 => nil_u8
  | i + 1 => (tb_u8 n c i).append (u8s_cons ⟨by unfold by8; omega, by unfold by8; omega⟩ nil_u8)
theorem encB_u8 (cl : Int) (co : Bool) (t k l : Nat) (d : List Int) (h : headOk cl t = true) (hl8 : l ≤ 7) (hd : U8s d) : U8s (encB cl co t k l d) := by
  have hh : 0 ≤ cl ∧ cl ≤ 3 := by unfold headOk at h; simp at h; omega
  unfold encB
  refine ((?_ : U8s _).append ?_).append hd
  · unfold headB frst
    split
    · refine u8s_cons ⟨?_, ?_⟩ nil_u8 <;> cases co <;> simp <;> omega
    · refine u8s_cons ⟨?_, ?_⟩ ?_
      · cases co <;> simp <;> omega
      · cases co <;> simp <;> omega
      · unfold sev
        exact (tp_u8 t k k).append (u8s_cons ⟨by omega, by omega⟩ nil_u8)
  · unfold lenB
    split
    · exact u8s_cons ⟨by omega, by omega⟩ nil_u8
    · exact u8s_cons ⟨by omega, by omega⟩ (tb_u8 _ _ _)
theorem encB_le (cl : Int) (co : Bool) (t k l : Nat) (d : List Int) (hk : k ≤ 8) (hl8 : l ≤ 7) : (encB cl co t k l d).length ≤ 20 + d.length := by
  unfold encB; rw [List.length_append, List.length_append, headB_len, lenB_len]; split <;> split <;> omega
/-- A slice of elements as an argument has it: class, tag, whether made of others, and data. -/
def TlvArg (w : World) (a : Option Addr) (n c : Nat) (Z : List (El × Value)) : Prop :=
  Z.length = n ∧ n ≤ c ∧ (n = 0 ∨ ∃ b off, a = some ⟨b, off, none⟩ ∧ b < w.heap.size ∧ ∀ (i : Nat) (z : El × Value), Z[i]? = some z → w.cell? ⟨b, off + i * 5, none⟩ = some (.int .i64 z.1.cl) ∧ w.cell? ⟨b, off + i * 5 + 1, none⟩ = some (.int .i64 z.1.tg) ∧ w.cell? ⟨b, off + i * 5 + 2, none⟩ = some (.bool z.1.co) ∧ w.cell? ⟨b, off + i * 5 + 3, none⟩ = some z.2)
    ∧ ∀ z ∈ Z, Sl .u8 w z.2 z.1.d ∧ U8s z.1.d ∧ z.1.d.length ≤ 9223372036854775807
/-- Elements that were laid, in a slice of the call's own; the data lie in elder memory. -/
def TlvM (w wr : World) (all v : Value) (L : List El) : Prop :=
  ∃ Y : List Tc, Y.map (·.1) = L ∧ MRow 5 32 w.heap.size wr v Y.length (tlvCells Y) ∧ (∀ y ∈ Y, Sl .u8 w y.2.1 y.1.d ∧ Row .u8 5 w.heap.size wr y.2.2 y.1.r) ∧ ∀ y ∈ Y, ∀ b, blkOf all = some b → blkOf y.2.2 ≠ some b
theorem TlvM.s {w wr : World} {all v : Value} {L : List El} (h : TlvM w wr all v L) (hb : Below w.heap.size w wr) : TlvS wr v L := by
  obtain ⟨Y, h1, h2, h3, _⟩ := h
  have hl : Y.length = L.length := by rw [← h1, List.length_map]
  rw [hl] at h2
  obtain ⟨h0, h2⟩ := h2
  have hrows : ∀ y ∈ Y, Sl .u8 wr y.2.1 y.1.d ∧ Sl .u8 wr y.2.2 y.1.r := fun y hy => ⟨below_sl hb (h3 y hy).1, (h3 y hy).2.sl⟩
  rcases h2 with ⟨rfl, h2⟩ | ⟨b, S, c, rfl, hB, hA, hS, hc, ht, hm⟩
  · have : L = [] := List.eq_nil_of_length_eq_zero h2
    subst this
    exact ⟨none, 0, Y, rfl, Nat.le_refl _, h1, .inl rfl, hrows⟩
  · refine ⟨_, _, Y, rfl, hc, h1, .inr ⟨b, 0, rfl, hA.lt, fun i hi => ?_⟩, hrows⟩
    rw [Nat.zero_add, hA.cell i, ← ht, List.getElem?_take, if_pos hi]
theorem TlvM.below {w wr wr' : World} {all v : Value} {L : List El} (h : TlvM w wr all v L) (hb : Below wr.heap.size wr wr') : TlvM w wr' all v L := by
  obtain ⟨Y, h1, h2, h3, h4⟩ := h
  exact ⟨Y, h1, h2.below hb, fun y hy => ⟨(h3 y hy).1, (h3 y hy).2.below hb⟩, h4⟩
/-- Put at one list. -/
theorem lists1 {w : World} {b : Nat} {v : Value} {d : List Int} {T : TypeId} (hA : Blk T w b [v]) (hd : Sl .u8 w v d) (hu : U8s d) : Lists w (some ⟨b, 0, none⟩) 1 1 [v] [d] :=
  ⟨⟨_, _, rfl, Nat.le_refl _, .inr ⟨b, 0, rfl, hA.lt, fun i hi => by
      have : i = 0 := by simpa using hi
      subst this
      exact hA.cell 0⟩⟩, ⟨rfl, fun i hi => by
      have : i = 0 := by simpa using hi
      subst this
      exact ⟨hd, hu⟩⟩, rfl⟩
end Go.Proofs.YtndcpjnfdgojkaaDoor
