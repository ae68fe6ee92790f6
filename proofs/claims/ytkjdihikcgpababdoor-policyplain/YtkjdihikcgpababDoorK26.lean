/-
  Policy: how arguments read: slices of texts, what is left of policies, what counts of a certificate.
-/
import Derived.Test.YtkjdihikcgpababDoorRows
import Derived.LaidLaws
import Derived.LaidHandle
import Derived.MakeChecks
import Derived.OpenShut
import Derived.ProofKit
import Derived.SliceStrings
import Derived.Deep.Slices
import Derived.Test.YtkjdihikcgpababDoorK25
namespace Go.Proofs.YtkjdihikcgpababDoor
open Go.ChangeShapes Go.WideShapes Go.ChangeAt Go.RowKit
theorem cell_spot {w : World} {x : Addr} {v : Value} (h : w.cell? x = some v) : x.spot = none ∧ x.block < w.heap.size := by
  unfold World.cell? at h
  split at h
  · rename_i c t f hh
    refine ⟨?_, (Array.getElem?_eq_some_iff.1 hh).1⟩
    by_cases hs : x.spot.isSome
    · simp [hs] at h
    · simpa using hs
  · cases h
def deb32L : List Int := [0, 1, 28, 2, 29, 14, 24, 3, 30, 22, 20, 15, 25, 17, 4, 8, 31, 27, 13, 23, 21, 19, 16, 7, 26, 12, 18, 6, 11, 5, 10, 9]
def deb64L : List Int := [0, 1, 56, 2, 57, 49, 28, 3, 61, 58, 42, 50, 38, 29, 17, 4, 62, 47, 59, 36, 45, 43, 51, 22, 53, 39, 33, 30, 24, 18, 12, 5, 63, 55, 48, 27, 60, 41, 37, 16, 46, 35, 44, 21, 52, 32, 23, 11, 54, 26, 40, 15, 34, 20, 31, 10, 25, 14, 19, 9, 13, 8, 7, 6]
def pow10L : List Int := [1, 10, 100, 1000, 10000, 100000, 1000000, 10000000, 100000000, 1000000000, 10000000000, 100000000000, 1000000000000, 10000000000000, 100000000000000, 1000000000000000, 10000000000000000, 100000000000000000, 1000000000000000000, 10000000000000000000]
/-- What the walks ask of the package's tables: nothing. -/
structure Tab (w : World) : Prop where
  any : True
theorem tabs_of_laid {W : World} (_h : laidMetH Tryd.prog Rows.policyPlainRow.laid W) : Tab W := ⟨trivial⟩
/-- A world for the witness: the settled one, the tables holding what their initialisers lay. -/
def accL : List Int := [128, 191, 160, 191, 128, 159, 144, 191, 128, 143] ++ List.replicate 22 0
def laidWorld (W : World) : World :=
  { W with heap := (((((W.heap.modify 2 fun | .cells _ t frozen => .cells (pow10L.map (Value.int .u64)).toArray t frozen | o => o).modify 4 fun | .cells _ t frozen => .cells (deb32L.map (Value.int .u8)).toArray t frozen | o => o).modify 5 fun | .cells _ t frozen => .cells (deb64L.map (Value.int .u8)).toArray t frozen | o => o).modify 1 fun | .cells _ t frozen => .cells (accL.map (Value.int .u8)).toArray t frozen | o => o).modify 0 fun | .cells _ t frozen => .cells (Pinned.utf8FirstZ.map fun (n : Nat) => Value.int .u8 n).toArray t frozen | o => o) }
/-- A slice of texts, opened. -/
theorem txs_of {H : Type} {enc : TypeId × Value → H} {P : Program} {W : World} {held : Bool} {t e : TypeId} {fuel : Nat} {v : Value} {x : DataW H × List MemPlace} (ht : P.underlying t = some (.slice e)) (he : P.underlying e = some .string) (hc : P.cellsOf e = 1)
    (h : DataW.trod enc P W 0 (fun _ => true) held fuel t [v] = some x) : ∃ L, TxS W v L := by
  rcases open_strings ht he hc h with ⟨hcs, _⟩ | ⟨a, len, cap, ss, hcs, _, hl, hm, hz, _, hcell, hsz⟩
  · simp at hcs
    subst hcs
    exact ⟨[], TxS.nil W⟩
  · simp at hcs
    subst hcs
    have hz' : ss.length = cap := by simpa using hz
    have hL : ((ss.take len).map fun s => s.data.toList).length = len := by simp; omega
    refine ⟨(ss.take len).map fun s => s.data.toList, ⟨some a, cap, by rw [hL], by rw [hL]; exact hl, ?_⟩, fun s hs => ?_⟩
    · by_cases h0 : len = 0
      · exact .inl (List.eq_nil_of_length_eq_zero (by omega))
      · right
        obtain ⟨b, off, sp⟩ := a
        have h1 := cell_spot (hcell 0 (by omega))
        have hsp : sp = none := by
          have := h1.1
          cases sp with
          | none => rfl
          | some s => simp [Addr.add] at this
        subst hsp
        refine ⟨b, off, rfl, by have := h1.2; simpa [Addr.add] using this, fun i hi => ?_⟩
        rw [hL] at hi
        have h2 := hcell i (by omega)
        have hadd : (⟨b, off, none⟩ : Addr).add i = ⟨b, off + i, none⟩ := by simp [Addr.add]
        rw [hadd] at h2
        rw [h2]
        have hi' : i < ss.length := by omega
        have e1 : ss.getD i ByteArray.empty = ss[i] := by rw [List.getD_eq_getElem?_getD, List.getElem?_eq_getElem hi']; rfl
        have e2 : ((ss.take len).map fun s => s.data.toList).getD i [] = ss[i].data.toList := by
          rw [List.getD_eq_getElem?_getD, List.getElem?_map, List.getElem?_take, if_pos hi, List.getElem?_eq_getElem hi']
          rfl
        rw [e1, e2]
    · obtain ⟨y, hy, rfl⟩ := List.mem_map.1 hs
      have := hsz y (List.mem_of_mem_take hy)
      show y.data.toList.length ≤ maxLen
      rw [Array.length_toList]
      exact this
set_option maxRecDepth 20000 in
theorem pol_of {H : Type} {enc : TypeId × Value → H} {W : World} {held : Bool} {fuel : Nat} {cs : Array Value} {x : DataW H × List MemPlace} (hz : cs.size = Tryd.prog.cellsOf 36) (h : DataW.trod enc Tryd.prog W 0 (fun _ => true) held fuel 36 cs.toList = some x) :
    ∃ (u : Value) (e n : Int) (L : List Tx), cs = #[u, .int .i64 e, .int .i64 n] ∧ TxS W u L ∧ (Lit.int .i64 e).wf = true ∧ (Lit.int .i64 n).wf = true := by
  have ce : Tryd.prog.cellsOf 36 = 3 := by kernel_rfl
  have c1 : Tryd.prog.cellsOf 3 = 1 := by kernel_rfl
  have c3 : Tryd.prog.cellsOf 22 = 1 := by kernel_rfl
  obtain ⟨l⟩ := cs
  rw [ce] at hz
  match l, hz with
  | [v0, v1, v2], _ =>
    obtain ⟨xs, k, hk, hxy, _, hxl, hf⟩ := DataW.trod_struct Tryd.underlying36 h
    have g0 : DataW.trod enc Tryd.prog W 0 (fun _ => true) held k 22 (([v0, v1, v2].drop 0).take (Tryd.prog.cellsOf 22)) = xs[0]? := hf 0 _ rfl
    have g1 : DataW.trod enc Tryd.prog W 0 (fun _ => true) held k 3 (([v0, v1, v2].drop 1).take (Tryd.prog.cellsOf 3)) = xs[1]? := hf 1 _ rfl
    have g2 : DataW.trod enc Tryd.prog W 0 (fun _ => true) held k 3 (([v0, v1, v2].drop 2).take (Tryd.prog.cellsOf 3)) = xs[2]? := hf 2 _ rfl
    have hxl3 : xs.length = 3 := by rw [hxl]; rfl
    clear hxl hxy hf h
    rw [c3] at g0
    rw [c1] at g1 g2
    match xs, hxl3 with
    | [y0, y1, y2], _ =>
      obtain ⟨L, hL⟩ := txs_of Tryd.underlying22 Tryd.underlying9 (by kernel_rfl) (show DataW.trod enc Tryd.prog W 0 (fun _ => true) held k 22 [v0] = some y0 from g0)
      obtain ⟨q1, e1, _, w1⟩ := DataW.trod_int Tryd.underlying3 (show DataW.trod enc Tryd.prog W 0 (fun _ => true) held k 3 [v1] = some y1 from g1)
      obtain ⟨q2, e2, _, w2⟩ := DataW.trod_int Tryd.underlying3 (show DataW.trod enc Tryd.prog W 0 (fun _ => true) held k 3 [v2] = some y2 from g2)
      simp only [List.cons.injEq, and_true] at e1 e2
      subst e1; subst e2
      exact ⟨v0, q1, q2, L, rfl, hL, w1, w2⟩
set_option maxRecDepth 20000 in
theorem bit_of {H : Type} {enc : TypeId × Value → H} {W : World} {held : Bool} {fuel : Nat} {cs : Array Value} {x : DataW H × List MemPlace} (hz : cs.size = Tryd.prog.cellsOf 26) (h : DataW.trod enc Tryd.prog W 0 (fun _ => true) held fuel 26 cs.toList = some x) :
    ∃ (u : Value) (e n : Int) (o : Bool) (L : List Tx), cs = #[u, .int .i64 e, .int .i64 n, .bool o] ∧ TxS W u L ∧ (Lit.int .i64 e).wf = true ∧ (Lit.int .i64 n).wf = true := by
  have ce : Tryd.prog.cellsOf 26 = 4 := by kernel_rfl
  have c1 : Tryd.prog.cellsOf 3 = 1 := by kernel_rfl
  have c2 : Tryd.prog.cellsOf 4 = 1 := by kernel_rfl
  have c3 : Tryd.prog.cellsOf 22 = 1 := by kernel_rfl
  obtain ⟨l⟩ := cs
  rw [ce] at hz
  match l, hz with
  | [v0, v1, v2, v3], _ =>
    obtain ⟨xs, k, hk, hxy, _, hxl, hf⟩ := DataW.trod_struct Tryd.underlying26 h
    have g0 : DataW.trod enc Tryd.prog W 0 (fun _ => true) held k 22 (([v0, v1, v2, v3].drop 0).take (Tryd.prog.cellsOf 22)) = xs[0]? := hf 0 _ rfl
    have g1 : DataW.trod enc Tryd.prog W 0 (fun _ => true) held k 3 (([v0, v1, v2, v3].drop 1).take (Tryd.prog.cellsOf 3)) = xs[1]? := hf 1 _ rfl
    have g2 : DataW.trod enc Tryd.prog W 0 (fun _ => true) held k 3 (([v0, v1, v2, v3].drop 2).take (Tryd.prog.cellsOf 3)) = xs[2]? := hf 2 _ rfl
    have g3 : DataW.trod enc Tryd.prog W 0 (fun _ => true) held k 4 (([v0, v1, v2, v3].drop 3).take (Tryd.prog.cellsOf 4)) = xs[3]? := hf 3 _ rfl
    have hxl4 : xs.length = 4 := by rw [hxl]; rfl
    clear hxl hxy hf h
    rw [c3] at g0
    rw [c1] at g1 g2
    rw [c2] at g3
    match xs, hxl4 with
    | [y0, y1, y2, y3], _ =>
      obtain ⟨L, hL⟩ := txs_of Tryd.underlying22 Tryd.underlying9 (by kernel_rfl) (show DataW.trod enc Tryd.prog W 0 (fun _ => true) held k 22 [v0] = some y0 from g0)
      obtain ⟨q1, e1, _, w1⟩ := DataW.trod_int Tryd.underlying3 (show DataW.trod enc Tryd.prog W 0 (fun _ => true) held k 3 [v1] = some y1 from g1)
      obtain ⟨q2, e2, _, w2⟩ := DataW.trod_int Tryd.underlying3 (show DataW.trod enc Tryd.prog W 0 (fun _ => true) held k 3 [v2] = some y2 from g2)
      obtain ⟨q3, e3, _⟩ := DataW.trod_bool Tryd.underlying4 (show DataW.trod enc Tryd.prog W 0 (fun _ => true) held k 4 [v3] = some y3 from g3)
      simp only [List.cons.injEq, and_true] at e1 e2 e3
      subst e1; subst e2; subst e3
      exact ⟨v0, q1, q2, q3, L, rfl, hL, w1, w2⟩
set_option maxRecDepth 20000 in
/-- A slice of what counts of certificates, opened. -/
theorem bits_of {H : Type} {enc : TypeId × Value → H} {W : World} {held : Bool} {fuel : Nat} {v : Value} {x : DataW H × List MemPlace} (h : DataW.trod enc Tryd.prog W 0 (fun _ => true) held fuel 24 [v] = some x) : ∃ Z, BitS W v Z := by
  have ce : Tryd.prog.cellsOf 26 = 4 := by kernel_rfl
  rcases Deep.open_slice Tryd.underlying24 h with ⟨hcs, _⟩ | ⟨ad, len, cap, m, n, D, Pl, hcs, hb, hl, hm, hmm, _, hx⟩
  · simp at hcs
    subst hcs
    exact ⟨[], ⟨none, 0, rfl, Nat.le_refl _, .inl rfl⟩, by simp⟩
  · simp at hcs
    subst hcs
    have hmc : m = cap := by simpa using hmm
    subst hmc
    have each : ∀ i, i < m → ∃ z : Bt, (∀ (j : Nat) (u : Value), (bitC z)[j]? = some u → W.cell? (ad.add (i * 4 + j)) = some u) ∧ TxS W z.v z.P ∧ (Lit.int .i64 z.r).wf = true ∧ (Lit.int .i64 z.i).wf = true := by
      intro i hi
      obtain ⟨cs', h1, h2⟩ := hx i hi
      rw [ce] at h1
      obtain ⟨_, hlen, hcell⟩ := World.cells?_some h1
      obtain ⟨u, e, k, o, L, hcs', hT, w1, w2⟩ := bit_of (cs := cs'.toArray) (by rw [ce]; simpa using hlen) (by simpa using h2)
      refine ⟨⟨L, e, k, o, u⟩, fun j q hq => ?_, hT, w1, w2⟩
      have hj : j < 4 := by have := (List.getElem?_eq_some_iff.1 hq).1; exact this
      have hc2 : cs' = bitC ⟨L, e, k, o, u⟩ := by
        have := congrArg Array.toList hcs'
        exact (by simpa using this : cs' = [u, .int .i64 e, .int .i64 k, .bool o])
      have h3 := hcell j (by omega)
      rw [Deep.add_add] at h3
      rw [h3, ← hq, ← hc2]
    have hi : Inhabited Bt := ⟨⟨[], 0, 0, false, undef⟩⟩
    obtain ⟨z, hz⟩ := Deep.choose_lt each
    have hget : ∀ (i : Nat) (y : Bt), ((List.range len).map z)[i]? = some y → i < len ∧ y = z i := fun i y hy => by
      rw [List.getElem?_map] at hy
      have hi : i < len := by
        by_cases hi : i < len
        · exact hi
        · rw [List.getElem?_eq_none (by simp; omega)] at hy; simp at hy
      rw [List.getElem?_range hi] at hy
      simp only [Option.map_some, Option.some.injEq] at hy
      exact ⟨hi, hy.symm⟩
    refine ⟨(List.range len).map z, ⟨some ad, m, by simp, by simpa using hl, ?_⟩, ?_⟩
    · by_cases h0 : len = 0
      · left; subst h0; rfl
      · right
        obtain ⟨b, off, sp⟩ := ad
        have h1 := cell_spot ((hz 0 (by omega)).1 0 (z 0).v rfl)
        have hsp : sp = none := by
          have := h1.1
          cases sp with
          | none => rfl
          | some s => simp [Addr.add] at this
        subst hsp
        have hb' : b < W.heap.size := by have := h1.2; simpa [Addr.add] using this
        refine ⟨b, off, rfl, hb', fun i y hy j u hj => ?_⟩
        obtain ⟨hi, rfl⟩ := hget i y hy
        have h2 := (hz i (by omega)).1 j u hj
        have hadd : (⟨b, off, none⟩ : Addr).add (i * 4 + j) = ⟨b, off + i * 4 + j, none⟩ := by simp [Addr.add, Nat.add_assoc]
        rw [hadd] at h2
        exact h2
    · intro y hy
      obtain ⟨i, hi, rfl⟩ := List.mem_map.1 hy
      exact (hz i (by have := List.mem_range.1 hi; omega)).2
end Go.Proofs.YtkjdihikcgpababDoor
