/-
  Clock: strings as rows of numbers; a row of digits as a number.
-/
import Derived.Test.YtonfllajceppgaaDoorC1
import Derived.Lib.OthersKept
import Derived.Laws.RangeString
import Derived.Laws.RangeAny
import Derived.Laws.BytesArg
import Derived.Lib.Strings
namespace Go.Proofs.YtonfllajceppgaaDoor
open Go.RowKit
theorem st_size (X : List Int) : (strOfNums X).size = X.length := strOfNums_size X
theorem u8_toNat {x : Int} (h : U8 x) : ((UInt8.ofNat x.toNat).toNat : Int) = x := by
  have := h.1; have := h.2
  simp; omega
theorem st_get (X : List Int) (hU : U8s X) (i : Nat) (hi : i < X.length) (h : i < (strOfNums X).size) : (((strOfNums X)[i]'h).toNat : Int) = X.getD i 0 := by
  have e : (strOfNums X)[i]'h = UInt8.ofNat (X[i]).toNat := by
    show ((X.map fun n => UInt8.ofNat n.toNat).toArray)[i]'(by simpa using hi) = _
    simp
  rw [e, u8_toNat (hU _ (List.getElem_mem hi))]
  simp [hi]
theorem st_extract (X : List Int) (a b : Nat) : (strOfNums X).extract a b = strOfNums ((X.drop a).take (b - a)) := by
  rw [Lib.extract_eq, strOfNums_data]
  unfold strOfNums
  rw [List.map_take, List.map_drop]
theorem st_append (X Y : List Int) : strOfNums X ++ strOfNums Y = strOfNums (X ++ Y) := by
  apply ByteArray.ext
  simp [strOfNums, ByteArray.data_append]
theorem st_inj {X Y : List Int} (hX : U8s X) (hY : U8s Y) (h : strOfNums X = strOfNums Y) : X = Y := by
  have e := congrArg (fun s => s.data.toList.map (fun b => (b.toNat : Int))) h
  simp only [strOfNums_data, List.map_map] at e
  have f : ∀ Z : List Int, U8s Z → Z.map ((fun b : UInt8 => (b.toNat : Int)) ∘ fun n => UInt8.ofNat n.toNat) = Z := by
    intro Z hZ
    induction Z with
    | nil => rfl
    | cons z Z ih =>
      rw [List.map_cons, ih (fun x hx => hZ x (List.mem_cons_of_mem _ hx))]
      congr 1
      exact u8_toNat (hZ z (List.mem_cons_self ..))
  rw [f X hX, f Y hY] at e
  exact e
/-! ## digits -/
def Dg (x : Int) : Prop := 48 ≤ x ∧ x ≤ 57
def Dgs (X : List Int) : Prop := ∀ x ∈ X, Dg x
def nval (X : List Int) : Int := X.foldl (fun n x => 10 * n + (x - 48)) 0
theorem nval_snoc (X : List Int) (x : Int) : nval (X ++ [x]) = 10 * nval X + (x - 48) := by simp [nval, List.foldl_append]
theorem take_snoc (X : List Int) (i : Nat) (h : i < X.length) : X.take (i + 1) = X.take i ++ [X.getD i 0] := by
  rw [List.take_add_one, List.getElem?_eq_getElem h]; simp [h]
theorem nval_bound (X : List Int) (h : Dgs X) : 0 ≤ nval X ∧ nval X < 10 ^ X.length := by
  have key : ∀ k, k ≤ X.length → 0 ≤ nval (X.take k) ∧ nval (X.take k) < 10 ^ k := by
    intro k
    induction k with
    | zero => intro _; simp [nval]
    | succ k ih =>
      intro hk
      have i := ih (by omega)
      rw [take_snoc X k (by omega), nval_snoc]
      have d : Dg (X.getD k 0) := by
        have : X.getD k 0 = X[k] := by simp [show k < X.length by omega]
        rw [this]; exact h _ (List.getElem_mem _)
      have := d.1; have := d.2
      rw [Int.pow_succ]
      generalize (10 : Int) ^ k = p at *
      omega
  have := key X.length (Nat.le_refl _)
  rwa [List.take_length] at this
theorem Dgs.take {X : List Int} (h : Dgs X) (k : Nat) : Dgs (X.take k) := fun x hx => h x (List.mem_of_mem_take hx)
theorem Dgs.drop {X : List Int} (h : Dgs X) (k : Nat) : Dgs (X.drop k) := fun x hx => h x (List.mem_of_mem_drop hx)
theorem pow_le14 {k : Nat} (h : k ≤ 14) : (10 : Int) ^ k ≤ 100000000000000 := by
  have : k = 0 ∨ k = 1 ∨ k = 2 ∨ k = 3 ∨ k = 4 ∨ k = 5 ∨ k = 6 ∨ k = 7 ∨ k = 8 ∨ k = 9 ∨ k = 10 ∨ k = 11 ∨ k = 12 ∨ k = 13 ∨ k = 14 := by omega
  rcases this with h | h | h | h | h | h | h | h | h | h | h | h | h | h | h <;> subst h <;> decide
/-- an iterator over a string in block g -/
def ItS (g : Nat) (X : List Int) (W : World) (pos : Nat) : Prop := W.heap[g]? = some (.stringIter (strOfNums X) pos)
theorem ItS.pos {g : Nat} {X : List Int} {W : World} {pos : Nat} (h : ItS g X W pos) : W.iterPos g = pos := by
  unfold World.iterPos; rw [h]
def NumIs (X : List Int) (c : Nat) (e : Ending) : Prop :=
  (X.length = c ∧ Dgs X ∧ e = .returned (.tuple #[.int .i64 (nval X), .bool true])) ∨ (¬ (X.length = c ∧ Dgs X) ∧ e = .returned (.tuple #[.int .i64 0, .bool false]))
set_option maxHeartbeats 1000000 in
theorem number_any {w : World} (X : List Int) (c : Nat) (hU : U8s X) (hc : c ≤ 14) :
    Calls Tryd.prog 33 #[.string (strOfNums X), .int .i64 c] w fun e w' => NumIs X c e ∧ Below w.heap.size w w' := by
  obtain ⟨S, hS⟩ : ∃ S, strOfNums X = S := ⟨_, rfl⟩
  have hz : S.size = X.length := by rw [← hS]; exact st_size X
  rw [hS]
  by_cases hlen : X.length = c
  · have hzI : (S.size : Int) = (c : Int) := by omega
    go_enter Tryd.func33, Tryd.ntmps33
    go_wp2_with fail
    refine wp_gen (fun W => ItS w.heap.size X W 0 ∧ Below w.heap.size w W) ⟨by unfold ItS; rw [hS, World.iter_heap], al1 _⟩ ?_
    rintro w1 ⟨hI, hb⟩
    have H1 : Hid (ItS w.heap.size X w1 0 ∧ Below w.heap.size w w1) := ⟨hI, hb⟩
    clear hI hb
    go_loopw [4] (fun nv wr => ∃ i : Nat, i ≤ c ∧ nv = .int .i64 (nval (X.take i)) ∧ Dgs (X.take i) ∧ ItS w.heap.size X wr i ∧ Below w.heap.size w wr) (fun _ wr => c - wr.iterPos w.heap.size)
    case atStart => exact ⟨0, by omega, rfl, fun x hx => by simp at hx, H1.out.1, H1.out.2⟩
    case round =>
      obtain ⟨i, hi, rfl, hD, hI, hb⟩ := hrel
      have HW : Hid (ItS w.heap.size X wr i ∧ Below w.heap.size w wr ∧ Dgs (X.take i) ∧ wr.iterPos w.heap.size = i) := ⟨hI, hb, hD, hI.pos⟩
      obtain ⟨n, hn⟩ : ∃ n, nval (X.take i) = n := ⟨_, rfl⟩
      have hn0 := nval_bound _ hD
      rw [hn, List.length_take, Nat.min_eq_left (by omega)] at hn0
      have hp := pow_le14 (show i ≤ 14 by omega)
      have n0 : 0 ≤ n := hn0.1
      have n1 : n ≤ 100000000000000 := by omega
      clear hn0 hp hD hI hb
      rw [hn]
      by_cases hlt : i < c
      · have hiS : i < (strOfNums X).size := by rw [st_size]; omega
        obtain ⟨x, hx⟩ : ∃ x, X.getD i 0 = x := ⟨_, rfl⟩
        have ux : U8 x := hx ▸ hU.at i
        have hg := st_get X hU i (by omega) hiS
        rw [hx] at hg
        by_cases hd : Dg x
        · have hnx : Sem.run Tryd.prog (Instr.next (.pointer (some ⟨w.heap.size, 0, none⟩)) true 0) wr = .ok (.tuple #[.bool true, .int .i64 i, .int .i32 x]) (wr.iterAt w.heap.size (strOfNums X) (i + 1)) := by
            rw [Lib.run_next_ascii_at wr w.heap.size (strOfNums X) i 0 HW.out.1 hiS (by have := hd.2; omega), hg]
          have x0 := hd.1
          have x1 := hd.2
          have HS : Hid (nval (X.take (i + 1)) = 10 * n + (x - 48) ∧ Dgs (X.take (i + 1))) := by
            rw [take_snoc X i (by omega), nval_snoc, hn, hx]
            refine ⟨rfl, fun y hy => ?_⟩
            rcases List.mem_append.1 hy with hy | hy
            · exact HW.out.2.2.1 y hy
            · rw [List.mem_singleton.1 hy]; exact hd
          clear hg ux hx hn
          go_wp2
          refine ⟨⟨i + 1, by omega, by rw [HS.out.1], HS.out.2, ?_, ?_⟩, ?_⟩
          · rw [← hS]; exact Lib.iterAt_heap wr _ _ i (i + 1) HW.out.1
          · exact Lib.below_iterAt HW.out.2.1 (Nat.le_refl _) _ _
          · have e : ItS w.heap.size X (wr.iterAt w.heap.size (strOfNums X) (i + 1)) (i + 1) := Lib.iterAt_heap wr _ _ i (i + 1) HW.out.1
            rw [← hS, e.pos, HW.out.2.2.2]; omega
        · obtain ⟨y, p, hnx, hy⟩ : ∃ (y : Int) (p : Nat), Sem.run Tryd.prog (Instr.next (.pointer (some ⟨w.heap.size, 0, none⟩)) true 0) wr = .ok (.tuple #[.bool true, .int .i64 i, .int .i32 y]) (wr.iterAt w.heap.size (strOfNums X) p) ∧ (y < 48 ∨ 57 < y) := by
            refine ⟨_, _, Lib.run_next_any_at wr w.heap.size (strOfNums X) i 0 HW.out.1 hiS, ?_⟩
            by_cases ha : ((strOfNums X)[i]'hiS).toNat < 128
            · rw [decode_ascii _ _ hiS ha]
              unfold Dg at hd; simp only; omega
            · have := (decode_high _ _ hiS (by omega)).1
              right; omega
          have HF : Hid (¬ (X.length = c ∧ Dgs X)) := fun h => hd (by
            have : x = X[i] := by rw [← hx]; simp [show i < X.length by omega]
            rw [this]; exact h.2 _ (List.getElem_mem _))
          clear hg ux hx hn
          rcases hy with hy | hy
          · go_wp2
            go_ret2
            exact ⟨Or.inr ⟨HF.out, rfl⟩, Lib.below_iterAt HW.out.2.1 (Nat.le_refl _) _ _⟩
          · have hy' : ¬ y < 48 := by omega
            go_wp2
            go_ret2
            exact ⟨Or.inr ⟨HF.out, rfl⟩, Lib.below_iterAt HW.out.2.1 (Nat.le_refl _) _ _⟩
      · have hnx : Sem.run Tryd.prog (Instr.next (.pointer (some ⟨w.heap.size, 0, none⟩)) true 0) wr = .ok (.tuple #[.bool false]) wr := Lib.run_next_end_at wr w.heap.size (strOfNums X) i 0 HW.out.1 (by rw [st_size]; omega)
        have HT : Hid (X.take i = X) := List.take_of_length_le (by omega)
        go_wp2
        go_ret2
        have hT := HT.out
        refine ⟨Or.inl ⟨hlen, by have := HW.out.2.2.1; rwa [hT] at this, ?_⟩, HW.out.2.1⟩
        rw [← hn, hT]; rfl
  · have hzI : ¬ (S.size : Int) = (c : Int) := by omega
    go_enter Tryd.func33, Tryd.ntmps33
    go_wp2
    go_ret2
    exact ⟨Or.inr ⟨fun h => hlen h.1, rfl⟩, Below.refl _ _⟩
end Go.Proofs.YtonfllajceppgaaDoor
