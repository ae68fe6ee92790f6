/-
  Ber: the seats of elements (pure), rows of seats in memory.
-/
import Derived.Test.YtefebamomdcaaaaGreatDoorK23
namespace Go.Proofs.YtefebamomdcaaaaGreatDoor
open Go.RowKit
/-- A seat: the tag of the string about it, the number of the outermost string, whether more segments follow. -/
abbrev Sea := Int × Nat × Bool
def noSea : Sea := (0, 0, false)
def noTe : Te := ⟨0, 0, 0, false, []⟩
/-- One element more. -/
def seatS (L : List Te) (i : Nat) (LT : List Nat) (Q : List Sea) : List Nat × List Sea :=
  let d := (L.getD i noTe).dp.toNat
  let a := LT.getD (d - 1) 0
  (LT.set d i, if d = 0 then Q else if cstr (L.getD a noTe) = true then Q.set i ((L.getD a noTe).tg, (if (Q.getD a noSea).1 ≠ 0 then (Q.getD a noSea).2.1 else a), false) else Q)
def seatF (L : List Te) : Nat → List Nat × List Sea
  | 0 => (List.replicate 64 0, List.replicate L.length noSea)
  | i + 1 => seatS L i (seatF L i).1 (seatF L i).2
/-- From the last one to the first: k of them gone by. -/
def moreF (L : List Te) (Q : List Sea) : Nat → List Sea × List Bool
  | 0 => (Q, List.replicate L.length false)
  | k + 1 =>
    let R := moreF L Q k
    let i := L.length - 1 - k
    let q := R.1.getD i noSea
    if q.1 ≠ 0 ∧ (L.getD i noTe).co = false then (R.1.set i (q.1, q.2.1, R.2.getD q.2.1 false), R.2.set q.2.1 true) else R
def seatsB (L : List Te) : List Sea := (moreF L (seatF L L.length).2 L.length).1
/-- What check tells: the first element that is not as it must be. -/
def chkF (L : List Te) (Q : List Sea) : Nat → Nat → Option (Int × Nat)
  | 0, _ => none
  | f + 1, i => if flB (L.getD i noTe) (Q.getD i noSea).1 (Q.getD i noSea).2.2 ≠ 0 then some (flB (L.getD i noTe) (Q.getD i noSea).1 (Q.getD i noSea).2.2, i) else chkF L Q f (i + 1)
def chkB (L : List Te) : Option (Int × Nat) := chkF L (seatsB L) L.length 0
/-- What holds of the first loop's lists. -/
structure SeatI (n i : Nat) (LT : List Nat) (Q : List Sea) : Prop where
  lt : LT.length = 64
  ql : Q.length = n
  la : ∀ k, k < 64 → LT.getD k 0 < i ∨ LT.getD k 0 = 0
  qw : ∀ k, k < n → (Q.getD k noSea).2.1 < n ∨ (Q.getD k noSea).2.1 = 0
theorem getD_set {α : Type} (l : List α) (i k : Nat) (v d : α) : (l.set i v).getD k d = if i = k ∧ i < l.length then v else l.getD k d := by
  rw [List.getD_eq_getElem?_getD, List.getElem?_set, List.getD_eq_getElem?_getD]
  by_cases h : i = k
  · subst h
    by_cases h2 : i < l.length
    · rw [if_pos rfl, if_pos h2, if_pos ⟨rfl, h2⟩]; rfl
    · rw [if_pos rfl, if_neg h2, if_neg (fun h => h2 h.2), List.getElem?_eq_none (by omega)]
  · rw [if_neg h, if_neg (fun h' => h h'.1)]
theorem SeatI.step {L : List Te} {i : Nat} {LT : List Nat} {Q : List Sea} (h : SeatI L.length i LT Q) (hL : i < L.length) : SeatI L.length (i + 1) (seatS L i LT Q).1 (seatS L i LT Q).2 := by
  have hL1 := hL
  have hn : ∀ k, k < 64 → LT.getD k 0 < i + 1 := fun k hk => by rcases h.la k hk with h | h <;> omega
  refine ⟨by simp [seatS, h.lt], ?_, fun k hk => ?_, fun k hk => ?_⟩
  · unfold seatS
    simp only []
    split
    · exact h.ql
    · split
      · simp [h.ql]
      · exact h.ql
  · unfold seatS
    simp only []
    rw [getD_set]
    split
    · omega
    · have := hn k hk; omega
  · unfold seatS
    simp only []
    split
    · exact h.qw k hk
    · split
      · rw [getD_set]
        split
        · simp only []
          have ha : LT.getD ((L.getD i noTe).dp.toNat - 1) 0 < L.length := by
            by_cases hk' : (L.getD i noTe).dp.toNat - 1 < 64
            · have := hn _ hk'; omega
            · rw [List.getD_eq_getElem?_getD, List.getElem?_eq_none (by rw [h.lt]; omega)]; simp; omega
          split
          · exact h.qw _ ha
          · exact .inl ha
        · exact h.qw k hk
      · exact h.qw k hk
theorem SeatI.all (L : List Te) : ∀ i, i ≤ L.length → SeatI L.length i (seatF L i).1 (seatF L i).2
  | 0, _ => by
    refine ⟨by simp [seatF], by simp [seatF], fun k hk => .inr ?_, fun k hk => .inr ?_⟩
    · simp only [seatF, List.getD_eq_getElem?_getD, List.getElem?_replicate]; split <;> rfl
    · simp only [seatF, List.getD_eq_getElem?_getD, List.getElem?_replicate]; split <;> rfl
  | i + 1, hi => (SeatI.all L i (by omega)).step (by omega)
/-- Seats in memory. -/
def cellQ (q : Sea) : List Value := [.int .i64 q.1, .int .i64 (q.2.1 : Int), .bool q.2.2]
def seaCells (Q : List Sea) : List Value := Q.flatMap cellQ
theorem seaCells_len (Q : List Sea) : (seaCells Q).length = Q.length * 3 := by
  induction Q with
  | nil => rfl
  | cons q Q ih => simp [seaCells] at ih ⊢; rw [ih]; simp [cellQ]; omega
theorem seaCells_cons (q : Sea) (Q : List Sea) : seaCells (q :: Q) = cellQ q ++ seaCells Q := by simp [seaCells]
theorem seaCells_at {Q : List Sea} {i : Nat} (h : i < Q.length) (k : Nat) (hk : k < 3) : (seaCells Q)[i * 3 + k]? = (cellQ (Q.getD i noSea))[k]? := by
  induction Q generalizing i with
  | nil => simp at h
  | cons q Q ih =>
    have hl : (cellQ q).length = 3 := rfl
    rw [seaCells_cons]
    cases i with
    | zero => rw [List.getElem?_append_left (by omega)]; simp
    | succ i =>
      rw [List.getElem?_append_right (by omega), hl, show (i + 1) * 3 + k - 3 = i * 3 + k by omega, ih (by simpa using h)]
      simp
theorem seaCells_set {Q : List Sea} {i : Nat} (q : Sea) (h : i < Q.length) : (((seaCells Q).set (i * 3) (.int .i64 q.1)).set (i * 3 + 1) (.int .i64 (q.2.1 : Int))).set (i * 3 + 2) (.bool q.2.2) = seaCells (Q.set i q) := by
  induction Q generalizing i with
  | nil => simp at h
  | cons p Q ih =>
    cases i with
    | zero => simp [seaCells_cons, cellQ]
    | succ i =>
      have := ih (i := i) (by simpa using h)
      rw [List.set_cons_succ, seaCells_cons, seaCells_cons, ← this]
      have e : ∀ (k : Nat) (v : Value) (X : List Value), (cellQ p ++ X).set ((i + 1) * 3 + k) v = cellQ p ++ X.set (i * 3 + k) v := fun k v X => by
        rw [List.set_append, if_neg (by simp [cellQ]; omega)]
        congr 2
        simp [cellQ]; omega
      have e0 := e 0
      simp only [Nat.add_zero] at e0
      rw [e0, e, e]
theorem seaCells_self {Q : List Sea} {i : Nat} (h : i < Q.length) (k : Nat) (hk : k < 3) (v : Value) (hv : (cellQ (Q.getD i noSea))[k]? = some v) : (seaCells Q).set (i * 3 + k) v = seaCells Q := by
  refine List.ext_getElem? fun j => ?_
  rw [List.getElem?_set]
  split
  · rename_i e
    subst e
    rw [if_pos (by rw [seaCells_len]; omega), seaCells_at h k hk, hv]
  · rfl
theorem sea_set1 {Q : List Sea} {i : Nat} (h : i < Q.length) (v : Nat) : (seaCells Q).set (i * 3 + 1) (.int .i64 (v : Int)) = seaCells (Q.set i ((Q.getD i noSea).1, v, (Q.getD i noSea).2.2)) := by
  rw [← seaCells_set _ h]
  have h0 := seaCells_self h 0 (by omega) (.int .i64 (Q.getD i noSea).1) rfl
  rw [Nat.add_zero] at h0
  rw [h0, List.set_comm _ _ (by omega), seaCells_self h 2 (by omega) _ rfl]
theorem sea_set2 {Q : List Sea} {i : Nat} (h : i < Q.length) (v : Bool) : (seaCells Q).set (i * 3 + 2) (.bool v) = seaCells (Q.set i ((Q.getD i noSea).1, (Q.getD i noSea).2.1, v)) := by
  rw [← seaCells_set _ h]
  have h0 := seaCells_self h 0 (by omega) (.int .i64 (Q.getD i noSea).1) rfl
  rw [Nat.add_zero] at h0
  rw [h0, seaCells_self h 1 (by omega) _ rfl]
end Go.Proofs.YtefebamomdcaaaaGreatDoor
/-
  Ber: seats walked.
-/
namespace Go.Proofs.YtefebamomdcaaaaGreatDoor
open Go.RowKit
/-- 'make' of any values. -/
theorem wpList_mkZ {P : Program} (w : World) {ops : Array Oper} {rest : List Oper} {o : Oper} {a : Act} {Q : Exit → Act → World → Prop} (hg : o.guard = none) (l c : Operand) (t : TypeId) (hop : o.op = .makeSlice t l c)
    (z : Value) (zs : List Value) (hz : z.cells = zs.toArray) (e : TypeId) (bytes : Nat) (ht : P.underlying t = some (.slice e)) (hi : (P.info? e).map (fun i => (i.zero, i.size, i.bytes)) = some (some z, zs.length, bytes))
    (n m : Nat) (hl : a.eval l = .int .i64 n) (hc : a.eval c = .int .i64 m) (hnm : n ≤ m) (hb : bytes * m ≤ 281474976710656) (hm : m ≤ 1152921504606846976)
    (hK : ∀ w', Blk e w' w.heap.size (List.replicate m zs).flatten → Below w.heap.size w w' → w'.heap.size = w.heap.size + 1 → wpList P ops Q rest (a.put o.dst (.slice (some ⟨w.heap.size, 0, none⟩) n m)) w') :
    wpList P ops Q (o :: rest) a w := by
  obtain ⟨i0, hi0, hz0, hz1, hz2⟩ := info_parts hi
  refine wpList_plain hg fun K hK' => ?_
  have hb' : (i0.bytes : Int) * (m : Int) ≤ 281474976710656 := by
    have h : ((i0.bytes * m : Nat) : Int) ≤ 281474976710656 := by rw [hz2]; omega
    rwa [Int.natCast_mul] at h
  have hr := run_make (P := P) w t e i0 z ht hi0 hz0 .i64 .i64 n m (by omega) (by omega) hb' (by omega)
  simp only [Int.toNat_natCast, hz1, hz] at hr
  have hA : Blk e (w.alloc (.cells (madeCells zs.toArray (m * zs.length)) e)) w.heap.size (List.replicate m zs).flatten := blk_nw rfl (toArray_of_toList (madeCells_rep zs m))
  unfold Oper.wp
  simp [execOp, hop, hl, hc, hr, Result.andThen]
  exact hK' _ _ (hK _ hA (al1 _) (by simp))
theorem Tryz.infoQ : (Tryz.prog.info? 167).map (fun i => (i.zero, i.size, i.bytes)) = some (some (.agg (cellQ noSea).toArray), 3, 24) := by kernel_rfl
theorem Tryz.undQ : Tryz.prog.underlying 163 = some (.slice 167) := by kernel_rfl
theorem Tryz.infoB : (Tryz.prog.info? 4).map (fun i => (i.zero, i.size, i.bytes)) = some (some (.bool false), 1, 1) := by kernel_rfl
theorem Tryz.undB : Tryz.prog.underlying 197 = some (.slice 4) := by kernel_rfl
theorem seaCells_rep (n : Nat) : seaCells (List.replicate n noSea) = (List.replicate n (cellQ noSea)).flatten := by
  induction n with
  | zero => rfl
  | succ n ih => rw [List.replicate_succ, seaCells_cons, ih, List.replicate_succ, List.flatten_cons]
theorem boolCells_rep (n : Nat) : (List.replicate n false).map Value.bool = (List.replicate n [Value.bool false]).flatten := by
  induction n with
  | zero => rfl
  | succ n ih => rw [List.replicate_succ, List.map_cons, ih, List.replicate_succ, List.flatten_cons]; rfl
theorem seat_step (L : List Te) (i : Nat) (LT : List Nat) (Q : List Sea) : seatS L i LT Q = (LT.set (L.getD i noTe).dp.toNat i, if (L.getD i noTe).dp.toNat = 0 then Q else if cstr (L.getD (LT.getD ((L.getD i noTe).dp.toNat - 1) 0) noTe) = true then Q.set i ((L.getD (LT.getD ((L.getD i noTe).dp.toNat - 1) 0) noTe).tg, (if (Q.getD (LT.getD ((L.getD i noTe).dp.toNat - 1) 0) noSea).1 ≠ 0 then (Q.getD (LT.getD ((L.getD i noTe).dp.toNat - 1) 0) noSea).2.1 else LT.getD ((L.getD i noTe).dp.toNat - 1) 0), false) else Q) := rfl
theorem tree_d0 {L : List Te} (h : treeB L = true) (h0 : 0 < L.length) : L[0].dp = 0 := by
  cases L with
  | nil => simp at h0
  | cons x r => simp only [treeB, Bool.and_eq_true, decide_eq_true_eq] at h; exact h.1.1.2
/-- The memory of the first loop. -/
def SI (w W : World) (LT : List Nat) (Q : List Sea) : Prop := Blk 167 W w.heap.size (seaCells Q) ∧ Blk 196 W (w.heap.size + 1) (LT.map fun (k : Nat) => Value.int .i64 (k : Int)) ∧ Below w.heap.size w W
theorem SI.below {w W W' : World} {LT : List Nat} {Q : List Sea} (h : SI w W LT Q) (hb : Below W.heap.size W W') : SI w W' LT Q := ⟨below_blk hb h.1.lt h.1, below_blk hb h.2.1.lt h.2.1, h.2.2.trans (hb.mono h.2.2.size)⟩
theorem SI.cell {w W : World} {LT : List Nat} {Q : List Sea} (h : SI w W LT Q) {a : Nat} (ha : a < Q.length) {k : Nat} (hk : k < 3) {v : Value} (hv : (cellQ (Q.getD a noSea))[k]? = some v) : W.cell? ⟨w.heap.size, a * 3 + k, none⟩ = some v := by
  rw [h.1.cell, seaCells_at ha k hk, hv]
theorem getD_at {α : Type} {l : List α} {i : Nat} (h : i < l.length) (d : α) : l.getD i d = l[i] := by rw [List.getD_eq_getElem?_getD, List.getElem?_eq_getElem h]; rfl
theorem more_step {L : List Te} {Q : List Sea} {k i : Nat} {R : List Sea} {BH : List Bool} (h : moreF L Q k = (R, BH)) (hi : L.length - 1 - k = i) : moreF L Q (k + 1) = if (R.getD i noSea).1 ≠ 0 ∧ (L.getD i noTe).co = false then (R.set i ((R.getD i noSea).1, (R.getD i noSea).2.1, BH.getD (R.getD i noSea).2.1 false), BH.set (R.getD i noSea).2.1 true) else (R, BH) := by
  rw [moreF]
  simp only [h, hi]
/-- What holds of the second loop's lists. -/
structure MoreI (n : Nat) (R : List Sea) (BH : List Bool) : Prop where
  rl : R.length = n
  bl : BH.length = n
  rw : ∀ k, k < n → (R.getD k noSea).2.1 < n
theorem MoreI.set {n : Nat} {R : List Sea} {BH : List Bool} (h : MoreI n R BH) {i : Nat} (hi : i < n) (t : Int) (m : Bool) (j : Nat) (q : Bool) : MoreI n (R.set i (t, (R.getD i noSea).2.1, m)) (BH.set j q) := by
  refine ⟨by simp [h.rl], by simp [h.bl], fun k hk => ?_⟩
  rw [getD_set]
  split
  · exact h.rw i hi
  · exact h.rw k hk
/-- The memory of the second loop. -/
def SJ (w W : World) (bb : Nat) (R : List Sea) (BH : List Bool) : Prop := Blk 167 W w.heap.size (seaCells R) ∧ Blk 4 W bb (BH.map Value.bool) ∧ Below w.heap.size w W
theorem SJ.cell {w W : World} {bb : Nat} {R : List Sea} {BH : List Bool} (h : SJ w W bb R BH) {a : Nat} (ha : a < R.length) {k : Nat} (hk : k < 3) {v : Value} (hv : (cellQ (R.getD a noSea))[k]? = some v) : W.cell? ⟨w.heap.size, a * 3 + k, none⟩ = some v := by
  rw [h.1.cell, seaCells_at ha k hk, hv]
set_option maxRecDepth 20000 in
set_option maxHeartbeats 8000000 in
theorem seats_any {w : World} (v : Value) (L : List Te) (hv : ElS w v L) (hT : treeB L = true) :
    Calls Tryz.prog 95 #[v] w fun e w' => e = .returned (.slice (some ⟨w.heap.size, 0, none⟩) L.length L.length) ∧ Blk 167 w' w.heap.size (seaCells (seatsB L)) ∧ (seatsB L).length = L.length ∧ Below w.heap.size w w' := by
  obtain ⟨n, hn⟩ : ∃ n, L.length = n := ⟨_, rfl⟩
  have hn2 : 0 < n ∧ n ≤ 65536 := by
    have := hT
    cases hL : L with
    | nil => rw [hL] at this; cases this
    | cons x r =>
      rw [hL] at this
      simp only [treeB, Bool.and_eq_true, decide_eq_true_eq] at this
      have h1 := this.1.1.1
      rw [← hL] at h1
      refine ⟨?_, by omega⟩
      rw [← hn, hL]; simp
  have HX : Hid (ElS w v L ∧ treeB L = true ∧ L.length = n) := ⟨hv, hT, hn⟩
  obtain ⟨Z, hZ⟩ : ∃ Z, seatsB L = Z := ⟨_, rfl⟩
  have HZ : Hid (seatsB L = Z) := hZ
  rw [hZ, hn]
  obtain ⟨a, c, rfl⟩ : ∃ a c, v = .slice a n c := by obtain ⟨a, c, Y, h, _⟩ := hv; exact ⟨a, c, by rw [h, hn]⟩
  have hnI : (n : Int) ≤ 65536 := by omega
  have hn0 : 0 < n := hn2.1
  have hl0 : 0 < L.length := by omega
  obtain ⟨b, o, _, _, _, rfl, hb, _⟩ := hv.at hl0
  clear hv hT hn hZ
  go_enter Tryz.func95, Tryz.ntmps95
  go_upto_region 2 with (refine wpList_mkZ _ rfl (.tmp 11) (.tmp 11) 163 rfl (.agg (cellQ noSea).toArray) (cellQ noSea) rfl 167 24 Tryz.undQ Tryz.infoQ n n rfl rfl (Nat.le_refl _) (by omega) (by omega) ?_; intro w1 hB1 hb1 hs1)
  have HW1 : Hid (Blk 167 w1 w.heap.size (List.replicate n (cellQ noSea)).flatten ∧ Below w.heap.size w w1) := ⟨hB1, hb1⟩
  clear hB1 hb1
  go_upto_region 3 with (fail)
  refine wp_gen (fun W => SI w W (List.replicate 64 0) (List.replicate n noSea)) ?_ ?_
  · refine ⟨by rw [seaCells_rep]; exact HW1.out.1.alloc _, blk_nw (by omega) (by kernel_rfl), HW1.out.2.trans ((al1 _).mono (by omega))⟩
  intro w2 hM
  have H2 : Hid (SI w w2 (List.replicate 64 0) (List.replicate n noSea)) := hM
  clear hM HW1 hs1
  go_wp2_with fail
  go_loopw [15] (fun iv wr => ∃ (i : Nat) (LT : List Nat) (Q : List Sea), iv = .int .i64 (i : Int) ∧ i ≤ n ∧ seatF L i = (LT, Q) ∧ SI w wr LT Q) (fun iv _ => n - (intOf iv).toNat)
  case atStart => exact ⟨0, _, _, rfl, Nat.zero_le _, by rw [seatF, HX.out.2.2], H2.out⟩
  case round =>
    obtain ⟨i, LT, Q, rfl, hi, hF, hM⟩ := hrel
    have hSI := SeatI.all L i (by have := HX.out.2.2; omega)
    rw [hF] at hSI
    simp only [] at hSI
    by_cases hlt : i < n
    · have hltI : (i : Int) < (n : Int) := by omega
      have hlL : i < L.length := by have := HX.out.2.2; omega
      obtain ⟨b', o', xd, xm, xk, hbo, _, p0, p1, p2, p3, p4, hxs⟩ := (HX.out.1.below hM.2.2).at hlL
      cases hbo
      have ht := (tree_at HX.out.2.1 i hlL).2.1
      obtain ⟨x, hx⟩ : ∃ x, L[i] = x := ⟨_, rfl⟩
      have hxg : L.getD i noTe = x := by rw [getD_at hlL, hx]
      rw [hx] at p0 p1 p2 p3 ht
      obtain ⟨d, hd, hd63⟩ := ht
      have hS : seatF L (i + 1) = seatS L i LT Q := by rw [seatF, hF]
      rw [seat_step, hxg, hd, Int.toNat_natCast] at hS
      have HD0 : Hid (i = 0 → d = 0) := fun h0 => by
        subst h0
        have h1 := tree_d0 HX.out.2.1 hlL
        rw [hx, hd] at h1
        omega
      obtain ⟨dp, cl, tg, co, dd⟩ := x
      simp only [] at p0 p1 p2 p3 hd
      subst hd
      have HF : Hid (seatF L (i + 1) = (LT.set d i, if d = 0 then Q else if cstr (L.getD (LT.getD (d - 1) 0) noTe) = true then Q.set i ((L.getD (LT.getD (d - 1) 0) noTe).tg, (if (Q.getD (LT.getD (d - 1) 0) noSea).1 ≠ 0 then (Q.getD (LT.getD (d - 1) 0) noSea).2.1 else LT.getD (d - 1) 0), false) else Q)) := hS
      have HSI : Hid (SeatI L.length i LT Q ∧ L.length = n) := ⟨hSI, HX.out.2.2⟩
      have HM0 : Hid (SI w wr LT Q) := hM
      have hd64 : d < 64 := by omega
      have hsz : w.heap.size + 1 < wr.heap.size := hM.2.1.lt
      clear hS hF hM hx hxg hxs hSI
      go_upto_region 6 with (fail)
      obtain ⟨bx, hbx⟩ : ∃ bx, wr.heap.size = bx := ⟨_, rfl⟩
      refine wp_gen (fun W => SI w W LT Q ∧ Blk 59 W bx [.int .i64 (d : Int), .int .i64 cl, .int .i64 tg, .bool co, .slice xd xm xk] ∧ bx < W.heap.size) ⟨HM0.out.below (al1 _), hbx ▸ Blk.new _ wr _, by simp; omega⟩ ?_
      rintro w3 ⟨hM3, hB3, hl3⟩
      have d0 : w3.cell? ⟨bx, 0, none⟩ = some (.int .i64 (d : Int)) := hB3.cell 0
      have hbx2 : w.heap.size + 2 ≤ bx := by omega
      rw [hbx]
      clear hbx p0 p1 p2 p3 p4
      have q1 : ∃ u, w3.cell? ⟨w.heap.size + 1, d, none⟩ = some u := ⟨_, by rw [hM3.2.1.cell d, List.getElem?_map, List.getElem?_eq_getElem (by rw [HSI.out.1.lt]; exact hd64)]; rfl⟩
      obtain ⟨u, q1⟩ := q1
      have f1 : w3.frozen? ⟨w.heap.size + 1, d, none⟩ = false := hM3.2.1.frozen d
      have H3 : Hid (SI w w3 LT Q ∧ Blk 59 w3 bx [.int .i64 (d : Int), .int .i64 cl, .int .i64 tg, .bool co, .slice xd xm xk]) := ⟨hM3, hB3⟩
      clear hM3 hB3
      go_upto_region 7 with (fail)
      refine wp_gen (fun W => SI w W (LT.set d i) Q ∧ Blk 59 W bx [.int .i64 (d : Int), .int .i64 cl, .int .i64 tg, .bool co, .slice xd xm xk] ∧ bx < W.heap.size) ?_ ?_
      · have hu := Upd.set w3 (w.heap.size + 1) d (.int .i64 (i : Int))
        refine ⟨⟨hu.blk H3.out.1.1 (by omega), ?_, bel_upd H3.out.1.2.2 hu (by omega)⟩, hu.blk H3.out.2 (by omega), by simpa using hl3⟩
        rw [List.map_set]; exact H3.out.1.2.1.set d _
      clear d0 q1 f1 hl3 H3
      rintro w4 ⟨hM4, hB4, hl4⟩
      have d0 : w4.cell? ⟨bx, 0, none⟩ = some (.int .i64 (d : Int)) := hB4.cell 0
      have H4 : Hid (SI w w4 (LT.set d i) Q ∧ Blk 59 w4 bx [.int .i64 (d : Int), .int .i64 cl, .int .i64 tg, .bool co, .slice xd xm xk]) := ⟨hM4, hB4⟩
      clear hM4 hB4
      by_cases hd0 : d = 0
      · have hd0b : ((d : Int) == 0) = true := by simpa using hd0
        have HE : Hid (seatF L (i + 1) = (LT.set d i, Q)) := by show _ = _; rw [HF.out, if_pos hd0]
        clear hd0
        go_wp2
        go_roundw
        case rel => exact ⟨i + 1, _, _, by go_num, by omega, HE.out, H4.out.1⟩
        case measure => simp [intOf]; omega
      · have hd0b : ((d : Int) == 0) = false := by simp; omega
        obtain ⟨e, he⟩ : ∃ e, d - 1 = e := ⟨_, rfl⟩
        have heI : (d : Int) - 1 = (e : Int) := by omega
        have he64 : e < 64 := by omega
        obtain ⟨ab, hab⟩ : ∃ ab, LT.getD e 0 = ab := ⟨_, rfl⟩
        have hai : ab < i := by
          have h1 := HSI.out.1.la e he64
          rw [hab] at h1
          have : i ≠ 0 := fun h0 => hd0 (HD0.out h0)
          omega
        have haL : ab < L.length := by omega
        have haI : (ab : Int) < (n : Int) := by have := HSI.out.2; omega
        have han : ab < n := by have := HSI.out.2; omega
        obtain ⟨b', o', yd, ym, yk, hbo, _, p0, p1, p2, p3, p4, _⟩ := (HX.out.1.below H4.out.1.2.2).at haL
        cases hbo
        obtain ⟨y, hy⟩ : ∃ y, L[ab] = y := ⟨_, rfl⟩
        have hyg : L.getD ab noTe = y := by rw [getD_at haL, hy]
        rw [hy] at p0 p1 p2 p3
        have HY := HF.out
        rw [if_neg hd0, he, hab, hyg] at HY
        obtain ⟨qa, hqa⟩ : ∃ qa, Q.getD ab noSea = qa := ⟨_, rfl⟩
        rw [hqa] at HY
        have qe : w4.cell? ⟨w.heap.size + 1, e, none⟩ = some (.int .i64 (ab : Int)) := by
          rw [H4.out.1.2.1.cell e, List.getElem?_map, List.getElem?_set_ne (by omega)]
          have h1 : LT[e]? = some ab := by
            rw [← hab, List.getD_eq_getElem?_getD, List.getElem?_eq_getElem (by rw [HSI.out.1.lt]; exact he64)]; rfl
          rw [h1]; rfl
        have HC0 : ∀ r, cstr y = r → Hid (∀ W : World, Calls Tryz.prog 97 #[elV y (.slice yd ym yk)] W fun e w' => e = .returned (.bool r) ∧ Below W.heap.size W w') := fun r hr W => by have := cstr_any (w := W) y (.slice yd ym yk); rwa [hr] at this
        have HQA : Hid (Q.getD ab noSea = qa) := hqa
        have hbw : b < w4.heap.size := Nat.lt_of_lt_of_le hb H4.out.1.2.2.size
        have HYR : Hid (seatF L (i + 1) = (LT.set d i, if cstr y = true then Q.set i (y.tg, (if qa.1 ≠ 0 then qa.2.1 else ab), false) else Q)) := HY
        obtain ⟨dq, cq, tq, coq, ddq⟩ := y
        simp only [] at p0 p1 p2 p3
        have H5 : Hid (w4.cell? ⟨b, o + ab * 5 + 2, none⟩ = some (.int .i64 tq)) := p2
        clear HY hy hyg hqa hab he hd0
        cases hcs : cstr ⟨dq, cq, tq, coq, ddq⟩ with
        | false =>
          have HC : Hid (∀ W : World, Calls Tryz.prog 97 #[.agg #[.int .i64 dq, .int .i64 cq, .int .i64 tq, .bool coq, .slice yd ym yk]] W fun e w' => e = .returned (.bool false) ∧ Below W.heap.size W w') := HC0 false hcs
          have HE : Hid (seatF L (i + 1) = (LT.set d i, Q)) := by show _ = _; rw [HYR.out, hcs]; rfl
          clear HC0 hcs
          go_wp2_with (go_at_call 97; refine (HC.out _).mono ?_; rintro ev w5 ⟨rfl, hb5⟩; have H6 : Hid (Below w4.heap.size w4 w5) := hb5; clear hb5)
          go_roundw
          case rel => exact ⟨i + 1, _, _, by go_num, by omega, HE.out, H4.out.1.below H6.out⟩
          case measure => simp [intOf]; omega
        | true =>
          have HC : Hid (∀ W : World, Calls Tryz.prog 97 #[.agg #[.int .i64 dq, .int .i64 cq, .int .i64 tq, .bool coq, .slice yd ym yk]] W fun e w' => e = .returned (.bool true) ∧ Below W.heap.size W w') := HC0 true hcs
          have HE : Hid (seatF L (i + 1) = (LT.set d i, Q.set i (tq, (if qa.1 ≠ 0 then qa.2.1 else ab), false))) := by show _ = _; rw [HYR.out, hcs]; rfl
          clear HC0 hcs
          have hQl : Q.length = n := by rw [HSI.out.1.ql, HSI.out.2]
          go_wp2_with fail
          refine (HC.out _).mono ?_
          rintro ev w5 ⟨rfl, hb5⟩
          have hM5 := H4.out.1.below hb5
          have r2 : w5.cell? ⟨b, o + ab * 5 + 2, none⟩ = some (.int .i64 tq) := (hb5.cell (p := ⟨b, o + ab * 5 + 2, none⟩) hbw).trans H5.out
          have c0 := hM5.cell (a := i) (by omega) (k := 0) (by omega) rfl
          have c1 := hM5.cell (a := i) (by omega) (k := 1) (by omega) rfl
          have c2 := hM5.cell (a := i) (by omega) (k := 2) (by omega) rfl
          rw [Nat.add_zero] at c0
          have f0 := hM5.1.frozen (i * 3)
          have f1 := hM5.1.frozen (i * 3 + 1)
          have f2 := hM5.1.frozen (i * 3 + 2)
          have H6 : Hid (SI w w5 (LT.set d i) Q) := hM5
          clear hb5 hM5 p0 p1 p2 p3 p4 d0 qe
          go_upto_region 11 with (fail)
          refine wp_gen (fun W => SI w W (LT.set d i) (Q.set i (tq, ab, false))) ?_ ?_
          · have hu := Upd.set w5 w.heap.size (i * 3) (.int .i64 tq)
            have hu1 := Upd.set (w5.setCell ⟨w.heap.size, i * 3, none⟩ (.int .i64 tq)) w.heap.size (i * 3 + 1) (.int .i64 (ab : Int))
            have hu2 := Upd.set ((w5.setCell ⟨w.heap.size, i * 3, none⟩ (.int .i64 tq)).setCell ⟨w.heap.size, i * 3 + 1, none⟩ (.int .i64 (ab : Int))) w.heap.size (i * 3 + 2) (.bool false)
            have hu3 := (hu.trans hu1).trans hu2
            refine ⟨?_, hu3.blk H6.out.2.1 (by omega), bel_upd H6.out.2.2 hu3 (Nat.le_refl _)⟩
            rw [← seaCells_set (Q := Q) (i := i) (tq, ab, false) (by omega)]
            exact ((H6.out.1.set (i * 3) _).set (i * 3 + 1) _).set (i * 3 + 2) _
          clear r2 c0 c1 c2 f0 f1 f2 H6
          rintro w6 hM6
          have hqq : (Q.set i (tq, ab, false)).getD ab noSea = qa := by rw [getD_set, if_neg (by omega)]; exact HQA.out
          have g0 := hM6.cell (a := ab) (by simp; omega) (k := 0) (by omega) (v := .int .i64 qa.1) (by rw [hqq]; rfl)
          have g1 := hM6.cell (a := ab) (by simp; omega) (k := 1) (by omega) (v := .int .i64 (qa.2.1 : Int)) (by rw [hqq]; rfl)
          rw [Nat.add_zero] at g0
          have k1 := hM6.cell (a := i) (by simp; omega) (k := 1) (by omega) rfl
          have f1 := hM6.1.frozen (i * 3 + 1)
          have H7 : Hid (SI w w6 (LT.set d i) (Q.set i (tq, ab, false))) := hM6
          clear hM6 hqq
          obtain ⟨t0, ht0⟩ : ∃ t0, qa.1 = t0 := ⟨_, rfl⟩
          obtain ⟨wa, hwa⟩ : ∃ wa, qa.2.1 = wa := ⟨_, rfl⟩
          rw [ht0] at g0
          rw [hwa] at g1
          have HE2 := HE.out
          rw [ht0, hwa] at HE2
          clear ht0 hwa
          by_cases ht : t0 = 0
          · have htb : (t0 != 0) = false := by simpa using ht
            have HE3 : Hid (seatF L (i + 1) = (LT.set d i, Q.set i (tq, ab, false))) := by show _ = _; rw [HE2, if_neg (by simpa using ht)]
            clear HE2 ht
            go_wp2
            go_roundw
            case rel => exact ⟨i + 1, _, _, by go_num, by omega, HE3.out, H7.out⟩
            case measure => simp [intOf]; omega
          · have htb : (t0 != 0) = true := by simpa using ht
            have HE3 : Hid (seatF L (i + 1) = (LT.set d i, Q.set i (tq, wa, false))) := by show _ = _; rw [HE2, if_pos ht]
            clear HE2 ht
            go_wp2
            go_roundw
            case rel =>
              refine ⟨i + 1, _, _, by go_num, by omega, HE3.out, ?_⟩
              have hu := Upd.set w6 w.heap.size (i * 3 + 1) (.int .i64 (wa : Int))
              refine ⟨?_, hu.blk H7.out.2.1 (by omega), bel_upd H7.out.2.2 hu (Nat.le_refl _)⟩
              have h1 := H7.out.1.set (i * 3 + 1) (.int .i64 (wa : Int))
              rw [sea_set1 (by simp; omega)] at h1
              have h2 : (Q.set i (tq, ab, false)).getD i noSea = (tq, ab, false) := by rw [getD_set, if_pos ⟨rfl, by omega⟩]
              rw [h2, List.set_set] at h1
              exact h1
            case measure => simp [intOf]; omega
    · obtain rfl : i = n := by omega
      have hltI : ¬ (i : Int) < (i : Int) := by omega
      have HF2 : Hid (seatF L i = (LT, Q) ∧ SeatI L.length i LT Q ∧ L.length = i ∧ SI w wr LT Q) := ⟨hF, hSI, HX.out.2.2, hM⟩
      have hsz : w.heap.size + 1 < wr.heap.size := hM.2.1.lt
      clear hF hSI hM
      go_upto_region 15 with (refine wpList_mkZ _ rfl (.tmp 65) (.tmp 65) 197 rfl (.bool false) [.bool false] rfl 4 1 Tryz.undB Tryz.infoB i i rfl rfl (Nat.le_refl _) (by omega) (by omega) ?_; intro w3 hB3 hb3 hs3)
      obtain ⟨bb, hbb⟩ : ∃ bb, wr.heap.size = bb := ⟨_, rfl⟩
      have H3 : Hid (SJ w w3 bb Q (List.replicate i false) ∧ MoreI i Q (List.replicate i false)) := by
        refine ⟨⟨below_blk hb3 (by omega) HF2.out.2.2.2.1, by rw [boolCells_rep, ← hbb]; exact hB3, HF2.out.2.2.2.2.2.trans (hb3.mono HF2.out.2.2.2.2.2.size)⟩, ⟨by rw [HF2.out.2.1.ql, HF2.out.2.2.1], by simp, fun k hk => ?_⟩⟩
        rcases HF2.out.2.1.qw k (by rw [HF2.out.2.2.1]; exact hk) with h | h
        · rw [HF2.out.2.2.1] at h; exact h
        · omega
      have hbb2 : w.heap.size + 2 ≤ bb := by omega
      rw [hbb]
      clear hB3 hb3 hs3 hbb
      go_wp2_with fail
      go_loopw [9] (fun iv wr => ∃ (k : Nat) (R : List Sea) (BH : List Bool), iv = .int .i64 ((k : Int) - 1) ∧ k ≤ i ∧ moreF L Q (i - k) = (R, BH) ∧ SJ w wr bb R BH ∧ MoreI i R BH) (fun iv _ => (intOf iv + 1).toNat)
      case atStart => exact ⟨i, _, _, rfl, Nat.le_refl _, by rw [Nat.sub_self, moreF, HF2.out.2.2.1], H3.out.1, H3.out.2⟩
      case round =>
        obtain ⟨k, R, BH, hiv, hk, hF, hM, hI⟩ := hrel
        cases k with
        | zero =>
          have HE : Hid (seaCells Z = seaCells R ∧ Z.length = i) := by
            have h1 : seatsB L = R := by
              unfold seatsB
              rw [HF2.out.2.2.1, HF2.out.1]
              simp only []
              rw [Nat.sub_zero] at hF
              rw [hF]
            rw [← HZ.out, h1]
            exact ⟨rfl, hI.rl⟩
          have H4 : Hid (SJ w wr bb R BH) := hM
          subst hiv
          clear hF hM hI
          go_wp2
          go_ret
          exact ⟨rfl, by rw [HE.out.1]; exact H4.out.1, HE.out.2, H4.out.2.2⟩
        | succ j =>
          rw [show (((j + 1 : Nat) : Int) - 1) = (j : Int) by omega] at hiv
          subst hiv
          have hji : j < i := by omega
          have hjI : (j : Int) < (i : Int) := by omega
          have hjL : j < L.length := by have := HF2.out.2.2.1; omega
          obtain ⟨b', o', xd, xm, xk, hbo, _, _, _, _, p3, _⟩ := (HX.out.1.below hM.2.2).at hjL
          cases hbo
          have hstep := more_step hF (i := j) (by have := HF2.out.2.2.1; omega)
          rw [show i - (j + 1) + 1 = i - j by omega, getD_at hjL] at hstep
          obtain ⟨co, hco⟩ : ∃ co, L[j].co = co := ⟨_, rfl⟩
          rw [hco] at p3 hstep
          obtain ⟨q, hq⟩ : ∃ q, R.getD j noSea = q := ⟨_, rfl⟩
          have hw := hI.rw j hji
          rw [hq] at hstep hw
          have c0 := hM.cell (a := j) (by rw [hI.rl]; exact hji) (k := 0) (by omega) (v := .int .i64 q.1) (by rw [hq]; rfl)
          have c1 := hM.cell (a := j) (by rw [hI.rl]; exact hji) (k := 1) (by omega) (v := .int .i64 (q.2.1 : Int)) (by rw [hq]; rfl)
          have c2 := hM.cell (a := j) (by rw [hI.rl]; exact hji) (k := 2) (by omega) (v := .bool q.2.2) (by rw [hq]; rfl)
          rw [Nat.add_zero] at c0
          have f2 := hM.1.frozen (j * 3 + 2)
          have hsl := hI.set hji q.1 (BH.getD q.2.1 false) q.2.1 true
          rw [hq] at hsl
          have HQ : Hid (R.getD j noSea = q) := hq
          obtain ⟨t0, u, m⟩ := q
          simp only [] at hstep hw c0 c1 c2 hsl
          obtain ⟨bh, hbh⟩ : ∃ bh, BH.getD u false = bh := ⟨_, rfl⟩
          rw [hbh] at hstep hsl
          have cb : wr.cell? ⟨bb, u, none⟩ = some (.bool bh) := by
            rw [hM.2.1.cell u, List.getElem?_map, List.getElem?_eq_getElem (by rw [hI.bl]; exact hw)]
            rw [getD_at (by rw [hI.bl]; exact hw)] at hbh
            rw [hbh]; rfl
          have fb := hM.2.1.frozen u
          have hwI : (u : Int) < (i : Int) := by omega
          have H5 : Hid (SJ w wr bb R BH ∧ MoreI i R BH ∧ MoreI i (R.set j (t0, u, bh)) (BH.set u true)) := ⟨hM, hI, hsl⟩
          have HS : Hid (moreF L Q (i - j) = if t0 ≠ 0 ∧ co = false then (R.set j (t0, u, bh), BH.set u true) else (R, BH)) := hstep
          clear hF hM hI hsl hstep hco hq hbh
          by_cases ht : t0 = 0
          · have htb : (t0 != 0) = false := by simpa using ht
            have HE : Hid (moreF L Q (i - j) = (R, BH)) := by show _ = _; rw [HS.out, if_neg (fun h => h.1 ht)]
            clear ht HS
            go_wp2
            go_roundw
            case rel => exact ⟨j, R, BH, by go_num, by omega, HE.out, H5.out.1, H5.out.2.1⟩
            case measure => simp [intOf]
          · have htb : (t0 != 0) = true := by simpa using ht
            cases co with
            | true =>
              have HE : Hid (moreF L Q (i - j) = (R, BH)) := by show _ = _; rw [HS.out, if_neg (fun h => by simp at h)]
              clear ht HS
              go_wp2
              go_roundw
              case rel => exact ⟨j, R, BH, by go_num, by omega, HE.out, H5.out.1, H5.out.2.1⟩
              case measure => simp [intOf]
            | false =>
              have HE : Hid (moreF L Q (i - j) = (R.set j (t0, u, bh), BH.set u true)) := by show _ = _; rw [HS.out, if_pos ⟨ht, rfl⟩]
              clear ht HS
              go_upto_region 20 with (fail)
              refine wp_gen (fun W => SJ w W bb (R.set j (t0, u, bh)) BH) ?_ ?_
              · have hu := Upd.set wr w.heap.size (j * 3 + 2) (.bool bh)
                refine ⟨?_, hu.blk H5.out.1.2.1 (by omega), bel_upd H5.out.1.2.2 hu (Nat.le_refl _)⟩
                have h1 := H5.out.1.1.set (j * 3 + 2) (.bool bh)
                rw [sea_set2 (by rw [H5.out.2.1.rl]; exact hji), HQ.out] at h1
                exact h1
              clear c0 c1 c2 f2 cb fb p3
              rintro w5 hM5
              have hqq : (R.set j (t0, u, bh)).getD j noSea = (t0, u, bh) := by rw [getD_set, if_pos ⟨rfl, by rw [H5.out.2.1.rl]; exact hji⟩]
              have c1 := hM5.cell (a := j) (by rw [H5.out.2.2.rl]; exact hji) (k := 1) (by omega) (v := .int .i64 (u : Int)) (by rw [hqq]; rfl)
              have cb : ∃ v, w5.cell? ⟨bb, u, none⟩ = some v := ⟨_, by rw [hM5.2.1.cell u, List.getElem?_map, List.getElem?_eq_getElem (by rw [H5.out.2.1.bl]; exact hw)]; rfl⟩
              obtain ⟨vb, cb⟩ := cb
              have fb := hM5.2.1.frozen u
              have H6 : Hid (SJ w w5 bb (R.set j (t0, u, bh)) BH) := hM5
              clear hM5 hqq
              go_wp2
              go_roundw
              case rel =>
                refine ⟨j, _, _, by go_num, by omega, HE.out, ?_, H5.out.2.2⟩
                have hu := Upd.set w5 bb u (.bool true)
                refine ⟨hu.blk H6.out.1 (by omega), ?_, bel_upd H6.out.2.2 hu (by omega)⟩
                rw [List.map_set]; exact H6.out.2.1.set u _
              case measure => simp [intOf]
end Go.Proofs.YtefebamomdcaaaaGreatDoor
