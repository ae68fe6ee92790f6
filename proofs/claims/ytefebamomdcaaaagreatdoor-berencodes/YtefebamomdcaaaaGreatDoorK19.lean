/-
  Ber: nodes in memory; the arrays by depth.
-/
import Derived.Test.YtefebamomdcaaaaGreatDoorK18
namespace Go.Proofs.YtefebamomdcaaaaGreatDoor
open Go.RowKit
/-- A node in memory: the element with its front, the slices of its data and its front, how many bytes and elements it has in all. -/
structure Nv where
  nd : Nd
  s : Value
  f : Value
  sz : Nat
  ct : Nat
def cellN (z : Nv) : List Value := [.int .i64 z.nd.1.dp, .int .i64 z.nd.1.cl, .int .i64 z.nd.1.tg, .bool z.nd.1.co, z.s, z.f, .int .i64 (z.sz : Int), .int .i64 (z.ct : Int)]
def ndCells (Z : List Nv) : List Value := Z.flatMap cellN
theorem ndCells_cons (z : Nv) (Z : List Nv) : ndCells (z :: Z) = cellN z ++ ndCells Z := by simp [ndCells]
theorem ndCells_app (Z Z' : List Nv) : ndCells (Z ++ Z') = ndCells Z ++ ndCells Z' := by simp [ndCells]
theorem ndCells_len (Z : List Nv) : (ndCells Z).length = Z.length * 8 := by
  induction Z with
  | nil => rfl
  | cons z Z ih => rw [ndCells_cons, List.length_append, ih, List.length_cons]; simp [cellN]; omega
theorem ndCells_at {Z : List Nv} {i : Nat} (h : i < Z.length) (k : Nat) (hk : k < 8) : (ndCells Z)[i * 8 + k]? = (cellN Z[i])[k]? := by
  induction Z generalizing i with
  | nil => simp at h
  | cons z Z ih =>
    have hl : (cellN z).length = 8 := rfl
    rw [ndCells_cons]
    cases i with
    | zero => rw [List.getElem?_append_left (by omega)]; simp
    | succ i =>
      rw [List.getElem?_append_right (by omega), hl, show (i + 1) * 8 + k - 8 = i * 8 + k by omega, ih (by simpa using h)]
      simp
/-- A node of which nothing is told yet. -/
def zN : List Value := [.int .i64 0, .int .i64 0, .int .i64 0, .bool false, .slice none 0 0, .slice none 0 0, .int .i64 0, .int .i64 0]
def zNs (n : Nat) : List Value := (List.replicate n zN).flatten
theorem zNs_len (n : Nat) : (zNs n).length = n * 8 := by
  induction n with
  | zero => rfl
  | succ n ih => unfold zNs at *; rw [List.replicate_succ, List.flatten_cons, List.length_append, ih]; simp [zN]; omega
theorem zNs_succ (n : Nat) : zNs (n + 1) = zNs n ++ zN := by
  unfold zNs
  rw [List.replicate_succ', List.flatten_append]; simp
theorem over_node (i : Nat) (z : Nv) (P : List Value) : over (zNs (i + 1) ++ P) (i * 8) (cellN z) = zNs i ++ (cellN z ++ P) := by
  have h1 := zNs_len i
  have h2 : (cellN z).length = 8 := rfl
  have h3 : zN.length = 8 := rfl
  unfold over
  rw [zNs_succ, List.append_assoc, List.take_append_of_le_length (by omega), List.take_of_length_le (by omega), h2, ← h1, List.drop_append, List.drop_eq_nil_of_le (by omega), List.nil_append, show (zNs i).length + 8 - (zNs i).length = 8 by omega, List.drop_append, List.drop_eq_nil_of_le (by omega), h3]
  simp
/-- The arrays by depth behind a row of nodes. -/
def szL (N : List Nd) : List Int := (List.range 65).map fun (k : Nat) => ((byt (pick (k : Int) N) : Nat) : Int)
def ctL (N : List Nd) : List Int := (List.range 65).map fun (k : Nat) => (((pick (k : Int) N).length : Nat) : Int)
theorem szL_len (N : List Nd) : (szL N).length = 65 := by simp [szL]
theorem ctL_len (N : List Nd) : (ctL N).length = 65 := by simp [ctL]
theorem szL_at (N : List Nd) {k : Nat} (h : k < 65) : (szL N)[k]? = some ((byt (pick (k : Int) N) : Nat) : Int) := by simp [szL, h]
theorem ctL_at (N : List Nd) {k : Nat} (h : k < 65) : (ctL N)[k]? = some (((pick (k : Int) N).length : Nat) : Int) := by simp [ctL, h]
theorem szL_nil : szL [] = List.replicate 65 0 := by decide
theorem ctL_nil : ctL [] = List.replicate 65 0 := by decide
theorem szL_cons {y : Nd} {N : List Nd} {d : Nat} (hd : y.1.dp = d) (h : hdOk y.1.dp N) : szL (y :: N) = ((szL N).set (d + 1) 0).set d ((byt (pick (d : Int) N) + (ndL y + byt (inn (d : Int) N)) : Nat) : Int) := by
  refine List.ext_getElem? fun k => ?_
  rw [List.getElem?_set, List.getElem?_set]
  by_cases hk : k < 65
  · rw [szL_at _ hk]
    by_cases h1 : d = k
    · subst h1
      rw [if_pos rfl, if_pos (by simp [szL_len]; omega)]
      rw [← hd, pick_at, byt_app]
      simp only [byt]
      congr 2; omega
    · rw [if_neg h1]
      by_cases h2 : d + 1 = k
      · subst h2
        rw [if_pos rfl, if_pos (by simp [szL_len]; omega)]
        have : ((d + 1 : Nat) : Int) = y.1.dp + 1 := by omega
        rw [this, pick_in0]; rfl
      · rw [if_neg h2, szL_at _ hk]
        by_cases h3 : k < d
        · rw [pick_near (by omega)]
        · rw [pick_far (by omega), pick_far' h (by omega)]
  · have e1 : (szL (y :: N))[k]? = none := by simp [szL_len]; omega
    have e2 : (szL N)[k]? = none := by simp [szL_len]; omega
    rw [e1, e2]
    split
    · rename_i h4; subst h4; rw [if_neg (by simp [szL_len]; omega)]
    · split
      · rename_i h4; subst h4; rw [if_neg (by simp [szL_len]; omega)]
      · rfl
theorem ctL_cons {y : Nd} {N : List Nd} {d : Nat} (hd : y.1.dp = d) (h : hdOk y.1.dp N) : ctL (y :: N) = ((ctL N).set (d + 1) 0).set d (((pick (d : Int) N).length + (1 + (inn (d : Int) N).length) : Nat) : Int) := by
  refine List.ext_getElem? fun k => ?_
  rw [List.getElem?_set, List.getElem?_set]
  by_cases hk : k < 65
  · rw [ctL_at _ hk]
    by_cases h1 : d = k
    · subst h1
      rw [if_pos rfl, if_pos (by simp [ctL_len]; omega)]
      rw [← hd, pick_at]
      simp only [List.length_append, List.length_cons]
      congr 2; omega
    · rw [if_neg h1]
      by_cases h2 : d + 1 = k
      · subst h2
        rw [if_pos rfl, if_pos (by simp [ctL_len]; omega)]
        have : ((d + 1 : Nat) : Int) = y.1.dp + 1 := by omega
        rw [this, pick_in0]; rfl
      · rw [if_neg h2, ctL_at _ hk]
        by_cases h3 : k < d
        · rw [pick_near (by omega)]
        · rw [pick_far (by omega), pick_far' h (by omega)]
  · have e1 : (ctL (y :: N))[k]? = none := by simp [ctL_len]; omega
    have e2 : (ctL N)[k]? = none := by simp [ctL_len]; omega
    rw [e1, e2]
    split
    · rename_i h4; subst h4; rw [if_neg (by simp [ctL_len]; omega)]
    · split
      · rename_i h4; subst h4; rw [if_neg (by simp [ctL_len]; omega)]
      · rfl
end Go.Proofs.YtefebamomdcaaaaGreatDoor
/-
  Ber: measured: each element with its front.
-/
namespace Go.Proofs.YtefebamomdcaaaaGreatDoor
open Go.RowKit
/-- A slice reads a row of elements, the slices of their data told. -/
def ElY (w : World) (v : Value) (Y : List Tv) : Prop :=
  ∃ a c, v = .slice a Y.length c ∧ Y.length ≤ c ∧ (Y = [] ∨ ∃ b off, a = some ⟨b, off, none⟩ ∧ b < w.heap.size ∧ ∀ i, i < Y.length * 5 → w.cell? ⟨b, off + i, none⟩ = (elCells Y)[i]?) ∧ ∀ y ∈ Y, Sl .u8 w y.2 y.1.d
theorem ElS.y {w : World} {v : Value} {L : List Te} (h : ElS w v L) : ∃ Y, Y.map (·.1) = L ∧ ElY w v Y := by
  obtain ⟨a, c, Y, h1, h2, h3, h4, h5⟩ := h
  have hl : Y.length = L.length := by rw [← h3, List.length_map]
  refine ⟨Y, h3, a, c, by rw [hl]; exact h1, by omega, ?_, h5⟩
  rw [hl]
  rcases h4 with h4 | h4
  · subst h4; exact .inl (List.map_eq_nil_iff.1 h3)
  · exact .inr h4
theorem ElY.s {w : World} {v : Value} {Y : List Tv} (h : ElY w v Y) : ElS w v (Y.map (·.1)) := by
  obtain ⟨a, c, h1, h2, h4, h5⟩ := h
  refine ⟨a, c, Y, by rw [List.length_map]; exact h1, by rw [List.length_map]; exact h2, rfl, ?_, h5⟩
  rw [List.length_map]
  rcases h4 with h4 | h4
  · subst h4; exact .inl rfl
  · exact .inr h4
theorem ElY.below {w w' : World} {v : Value} {Y : List Tv} (h : ElY w v Y) (hb : Below w.heap.size w w') : ElY w' v Y := by
  obtain ⟨a, c, h1, h2, h4, h5⟩ := h
  refine ⟨a, c, h1, h2, ?_, fun y hy => below_sl hb (h5 y hy)⟩
  rcases h4 with h4 | ⟨b, off, h6, h7, h8⟩
  · exact .inl h4
  · exact .inr ⟨b, off, h6, Nat.lt_of_lt_of_le h7 hb.size, fun i hi => (hb.cell (p := ⟨b, off + i, none⟩) h7).trans (h8 i hi)⟩
theorem ElY.at {w : World} {a : Option Addr} {n c : Nat} {Y : List Tv} (h : ElY w (.slice a n c) Y) {i : Nat} (hi : i < Y.length) :
    ∃ b off d m k, a = some ⟨b, off, none⟩ ∧ b < w.heap.size ∧ w.cell? ⟨b, off + i * 5, none⟩ = some (.int .i64 Y[i].1.dp) ∧ w.cell? ⟨b, off + i * 5 + 1, none⟩ = some (.int .i64 Y[i].1.cl) ∧ w.cell? ⟨b, off + i * 5 + 2, none⟩ = some (.int .i64 Y[i].1.tg) ∧ w.cell? ⟨b, off + i * 5 + 3, none⟩ = some (.bool Y[i].1.co) ∧ w.cell? ⟨b, off + i * 5 + 4, none⟩ = some (.slice d m k) ∧ Y[i].2 = .slice d m k ∧ Sl .u8 w (.slice d m k) Y[i].1.d ∧ m = Y[i].1.d.length := by
  obtain ⟨a', c', h1, h2, h4, h5⟩ := h
  rcases h4 with h4 | ⟨b, off, h6, h7, h8⟩
  · subst h4; simp at hi
  · simp only [Value.slice.injEq] at h1
    obtain ⟨rfl, _, _⟩ := h1
    have hs := h5 Y[i] (List.getElem_mem _)
    have hs2 := hs
    obtain ⟨d, k, hd, hdc, hdr⟩ := hs
    have g : ∀ k, k < 5 → w.cell? ⟨b, off + i * 5 + k, none⟩ = (cellE Y[i])[k]? := fun k hk => by
      rw [← elCells_at hi k hk, ← h8 (i * 5 + k) (by omega), Nat.add_assoc]
    refine ⟨b, off, d, Y[i].1.d.length, k, h6, h7, ?_, ?_, ?_, ?_, ?_, hd, by rw [← hd]; exact hs2, rfl⟩
    · have := g 0 (by omega); simpa [cellE] using this
    · have := g 1 (by omega); simpa [cellE] using this
    · have := g 2 (by omega); simpa [cellE] using this
    · have := g 3 (by omega); simpa [cellE] using this
    · have := g 4 (by omega); simpa [cellE, hd] using this
/-- What measured tells of a row. -/
def MeasZ : List Tv → List Nv → Prop
  | [], [] => True
  | y :: r, z :: Z => MeasZ r Z ∧ z.s = y.2 ∧ z.nd = (y.1, frontB y.1 (y.1.d.length + byt (inn y.1.dp (nds (r.map (·.1)))))) ∧ z.sz = ndL z.nd + byt (inn y.1.dp (nds (r.map (·.1)))) ∧ z.ct = 1 + (inn y.1.dp (nds (r.map (·.1)))).length
  | _, _ => False
theorem MeasZ.len : ∀ {Y : List Tv} {Z : List Nv}, MeasZ Y Z → Z.length = Y.length
  | [], [], _ => rfl
  | _ :: r, _ :: Z, h => by simp [MeasZ.len (Y := r) (Z := Z) h.1]
  | [], _ :: _, h => h.elim
  | _ :: _, [], h => h.elim
theorem MeasZ.row : ∀ {Y : List Tv} {Z : List Nv}, MeasZ Y Z → Z.map (·.nd) = nds (Y.map (·.1))
  | [], [], _ => rfl
  | y :: r, z :: Z, h => by simp [nds, h.2.2.1, MeasZ.row (Y := r) (Z := Z) h.1]
  | [], _ :: _, h => h.elim
  | _ :: _, [], h => h.elim
theorem rowB_at {a : Te} {r : List Te} (h : rowB a r = true) : ∀ (i : Nat) (hi : i < r.length), standB r[i] = true ∧ 1 ≤ r[i].dp ∧ r[i].dp < 64 ∧ hdOk r[i].dp (nds (r.drop (i + 1))) := by
  induction r generalizing a with
  | nil => intro i hi; simp at hi
  | cons x r ih =>
    simp only [rowB, Bool.and_eq_true] at h
    intro i hi
    cases i with
    | zero =>
      have h2 := h.1.2
      simp only [folB, decide_eq_true_eq] at h2
      exact ⟨h.1.1, h2.1, h2.2.1, rowB_hd h.2⟩
    | succ i => exact ih h.2 i (by simpa using hi)
theorem tree_at {L : List Te} (h : treeB L = true) (i : Nat) (hi : i < L.length) : standB L[i] = true ∧ (∃ d : Nat, L[i].dp = d ∧ d ≤ 63) ∧ hdOk L[i].dp (nds (L.drop (i + 1))) := by
  cases L with
  | nil => simp at hi
  | cons x r =>
    simp only [treeB, Bool.and_eq_true, decide_eq_true_eq] at h
    cases i with
    | zero => exact ⟨h.1.2, ⟨0, h.1.1.2, by omega⟩, rowB_hd h.2⟩
    | succ i =>
      have h2 := rowB_at h.2 i (by simpa using hi)
      exact ⟨h2.1, ⟨(x :: r)[i + 1].dp.toNat, by have := h2.2; simp at this ⊢; omega, by have := h2.2; simp at this ⊢; omega⟩, h2.2.2.2⟩
theorem Tryz.infoN : (Tryz.prog.info? 122).map (fun i => (i.zero, i.size, i.bytes)) = some (some (.agg zN.toArray), 8, 96) := by kernel_rfl
theorem Tryz.sizeN : (Tryz.prog.info? 122).map (·.size) = some 8 := by kernel_rfl
theorem Tryz.undN : Tryz.prog.underlying 119 = some (.slice 122) := by kernel_rfl
theorem Tryz.buildN (a b c : Int) (d : Bool) (s : Option Addr) (k l : Nat) (f : Option Addr) (k2 l2 : Nat) (g h : Int) (W : World) : (Instr.build 122 #[(0, .agg #[.int .i64 a, .int .i64 b, .int .i64 c, .bool d, .slice s k l]), (1, .slice f k2 l2), (2, .int .i64 g), (3, .int .i64 h)]).run Tryz.prog W = .ok (.agg #[.int .i64 a, .int .i64 b, .int .i64 c, .bool d, .slice s k l, .slice f k2 l2, .int .i64 g, .int .i64 h]) W := by kernel_rfl
theorem oneN (a b c : Int) (d : Bool) (s : Option Addr) (k l : Nat) (f : Option Addr) (k2 l2 : Nat) (g h : Int) : (#[Value.int .i64 a, .int .i64 b, .int .i64 c, .bool d, .slice s k l, .slice f k2 l2, .int .i64 g, .int .i64 h] : Array Value).all (·.oneCell') = true := by simp [Value.oneCell']
/-- The memory that measured fills. -/
def MI (w W : World) (cs : List Value) (S C : List Int) (Z : List Nv) : Prop :=
  Blk 122 W w.heap.size cs ∧ Blk 161 W (w.heap.size + 1) (S.map (Value.int .i64)) ∧ Blk 161 W (w.heap.size + 2) (C.map (Value.int .i64)) ∧ Below w.heap.size w W ∧ ∀ z ∈ Z, Row .u8 5 (w.heap.size + 3) W z.f z.nd.2
theorem MI.below {w W W' : World} {cs : List Value} {S C : List Int} {Z : List Nv} (h : MI w W cs S C Z) (hb : Below W.heap.size W W') : MI w W' cs S C Z :=
  ⟨below_blk hb h.1.lt h.1, below_blk hb h.2.1.lt h.2.1, below_blk hb h.2.2.1.lt h.2.2.1, h.2.2.2.1.trans (hb.mono h.2.2.2.1.size), fun z hz => (h.2.2.2.2 z hz).below hb⟩
theorem bel_upd {w W W' : World} {g : Nat} (h : Below w.heap.size w W) (hu : Upd W W' g) (hg : w.heap.size ≤ g) : Below w.heap.size w W' :=
  ⟨hu.os.trans h.os, hu.tape.trans h.tape, hu.output.trans h.output, Nat.le_trans h.size hu.size, fun j hj => (hu.block j (Nat.lt_of_lt_of_le hj h.size) (fun e => by simp at e; omega)).trans (h.block j hj)⟩
theorem MI.setN {w W W' : World} {cs cs' : List Value} {S C : List Int} {Z : List Nv} (h : MI w W cs S C Z) (hu : Upd W W' w.heap.size) (hB : Blk 122 W' w.heap.size cs') : MI w W' cs' S C Z :=
  ⟨hB, hu.blk h.2.1 (by omega), hu.blk h.2.2.1 (by omega), bel_upd h.2.2.2.1 hu (Nat.le_refl _), fun z hz => (h.2.2.2.2 z hz).upd hu (by omega)⟩
theorem MI.setS {w W : World} {cs : List Value} {S C : List Int} {Z : List Nv} (h : MI w W cs S C Z) (k : Nat) (v : Int) : MI w (W.setCell ⟨w.heap.size + 1, k, none⟩ (.int .i64 v)) cs (S.set k v) C Z := by
  have hu := Upd.set W (w.heap.size + 1) k (.int .i64 v)
  refine ⟨hu.blk h.1 (by omega), ?_, hu.blk h.2.2.1 (by omega), bel_upd h.2.2.2.1 hu (by omega), fun z hz => (h.2.2.2.2 z hz).upd hu (by omega)⟩
  rw [List.map_set]; exact h.2.1.set k _
theorem MI.setC {w W : World} {cs : List Value} {S C : List Int} {Z : List Nv} (h : MI w W cs S C Z) (k : Nat) (v : Int) : MI w (W.setCell ⟨w.heap.size + 2, k, none⟩ (.int .i64 v)) cs S (C.set k v) Z := by
  have hu := Upd.set W (w.heap.size + 2) k (.int .i64 v)
  refine ⟨hu.blk h.1 (by omega), hu.blk h.2.1 (by omega), ?_, bel_upd h.2.2.2.1 hu (by omega), fun z hz => (h.2.2.2.2 z hz).upd hu (by omega)⟩
  rw [List.map_set]; exact h.2.2.1.set k _
theorem MI.size {w W : World} {cs : List Value} {S C : List Int} {Z : List Nv} (h : MI w W cs S C Z) : w.heap.size + 2 < W.heap.size := h.2.2.1.lt
end Go.Proofs.YtefebamomdcaaaaGreatDoor
