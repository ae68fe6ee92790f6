/-
  The reference's digits: of.
-/
import Derived.Test.YtkdclocjijmgpaaK16
namespace Go.Proofs.Ytkdclocjijmgpaa
open Go.RowKit
set_option maxRecDepth 20000
theorem take_pad_set (X : List Int) (t : Nat) (h : t < X.length) (h2 : t < 13) : (X.take t ++ List.replicate (13 - t) 0).set t (X.getD t 0) = X.take (t + 1) ++ List.replicate (13 - (t + 1)) 0 := by
  have hl : (X.take t).length = t := by simp; omega
  rw [List.set_append_right _ _ (by omega), hl, Nat.sub_self, show 13 - t = (13 - (t + 1)) + 1 by omega, List.replicate_succ, List.set_cons_zero]
  have e : X.getD t 0 = X[t] := by simp [List.getD_eq_getElem?_getD, List.getElem?_eq_getElem h]
  rw [e, List.take_succ_eq_append_getElem h, List.append_assoc]
  rfl
theorem take_pad_len (X : List Int) (t : Nat) (h : t ≤ X.length) (h2 : t ≤ 13) : (X.take t ++ List.replicate (13 - t) 0).length = 13 := by simp; omega
theorem u32s_zeros (n : Nat) : U32s (List.replicate n 0) := fun y hy => by rw [(List.mem_replicate.1 hy).2]; exact ⟨by decide, by decide⟩
theorem val_pad (X : List Int) (n : Nat) : val (X ++ List.replicate n 0) = val X := by rw [val_append, val_zeros]; simp
set_option maxHeartbeats 2000000 in
theorem rof_any {w : World} (v : Value) (X : List Int) (hX : Sl .u32 w v X) (uX : U32s X) (lX : X.length ≤ 1000000) :
    Calls Try.prog 55 #[v] w fun e w' => ∃ Z, e = .returned (dgA Z) ∧ Dg Z ∧ val Z = val (X.take 12) ∧ Below w.heap.size w w' := by
  obtain ⟨a, c, rfl, hc, h1⟩ := id hX
  go_enter Try.func55, Try.ntmps55
  go_upto_region 2 with (fail)
  refine wp_gen (fun W => Arr .u64 64 W w.heap.size (List.replicate 13 0) ∧ Arr .u64 64 W (w.heap.size + 1) (List.replicate 13 0) ∧ Below w.heap.size w W) ⟨((Blk.new 64 w z13).alloc _).arr (xs := List.replicate 13 0), by have h := Blk.new 64 (w.alloc (.cells z13.toArray 64)) z13; rw [World.size_alloc] at h; exact h.arr (xs := List.replicate 13 0), (al1 _).alloc (by simp) _⟩ ?_
  rintro W2 ⟨hR, hD, hBw⟩
  have H2 : Hid (Arr .u64 64 W2 w.heap.size (List.replicate 13 0) ∧ Arr .u64 64 W2 (w.heap.size + 1) (List.replicate 13 0) ∧ Below w.heap.size w W2) := ⟨hR, hD, hBw⟩
  have HX : Hid (U32s X ∧ Sl .u32 w (.slice a X.length c) X) := ⟨uX, hX⟩
  clear hR hD hBw uX hX
  go_wp2
  go_loopw [4] (fun i wr => ∃ t : Nat, i = .int .i64 t ∧ t ≤ X.length ∧ t ≤ 12 ∧ Hid (Arr .u64 64 wr w.heap.size (List.replicate 13 0) ∧ Arr .u64 64 wr (w.heap.size + 1) (X.take t ++ List.replicate (13 - t) 0) ∧ Below w.heap.size w wr)) (fun i _ => 12 - (intOf i).toNat)
  case atStart => exact ⟨0, rfl, by omega, by omega, by simpa using H2.out.1, by simpa using H2.out.2.1, H2.out.2.2⟩
  case round =>
    clear H2
    obtain ⟨t, rfl, ht1, ht2, HW⟩ := hrel
    by_cases hlt : t < X.length ∧ t < 12
    · obtain ⟨l1, l2⟩ := hlt
      obtain ⟨b, off, ha, hb, hrd⟩ : ∃ b off, a = some ⟨b, off, none⟩ ∧ b < w.heap.size ∧ Rd .u32 w b off X := by
        rcases h1 with rfl | ⟨b, off, rfl, hb, hr⟩
        · simp at l1
        · exact ⟨b, off, rfl, hb, hr⟩
      subst ha
      have hcx := (below_rd HW.out.2.2 hb hrd) t l1
      obtain ⟨x, hx⟩ : ∃ x, X.getD t 0 = x := ⟨_, rfl⟩
      rw [hx] at hcx
      have ux : U32 x := hx ▸ HX.out.1.at _
      obtain ⟨ux1, ux2⟩ := ux
      have hcd := HW.out.2.1.cell t (by rw [take_pad_len _ _ (by omega) (by omega)]; omega)
      have hfd := HW.out.2.1.frozen t
      obtain ⟨y, hy⟩ : ∃ y, (X.take t ++ List.replicate (13 - t) 0).getD t 0 = y := ⟨_, rfl⟩
      rw [hy] at hcd
      have HE : Hid (X.getD t 0 = x) := hx
      clear hx hy h1 hrd
      go_wp2
      go_roundw
      case rel =>
        obtain ⟨hR, hD, hBw⟩ := HW.out
        refine ⟨t + 1, by go_num, by omega, by omega, ?_, ?_, ?_⟩
        · exact (Upd.set _ (w.heap.size + 1) t _).arr hR (by omega)
        · have h := hD.set t x
          rw [← HE.out, take_pad_set _ _ l1 (by omega)] at h
          rw [← HE.out]
          exact h
        · exact (Upd.set _ (w.heap.size + 1) t _).below hBw hBw.size (by omega)
      case measure => simp [intOf]; omega
    · have HT : Hid (X.take t = X.take 12) := by
        show _ = _
        rcases Nat.lt_or_ge t 12 with h | h
        · rw [List.take_of_length_le (by omega), List.take_of_length_le (by omega)]
        · rw [show t = 12 by omega]
      have h14 : ¬ (t < X.length) ∨ t = 12 := by omega
      obtain ⟨Z, hZ⟩ : ∃ Z, X.take t ++ List.replicate (13 - t) 0 = Z := ⟨_, rfl⟩
      have HL : Hid (Dg Z ∧ val Z = val (X.take 12)) := ⟨⟨hZ ▸ (HX.out.1.take t).append (u32s_zeros _), hZ ▸ take_pad_len _ _ ht1 (by omega)⟩, by rw [← hZ, val_pad, HT.out]⟩
      obtain ⟨hR, hA, hBw⟩ := HW.out
      rw [hZ] at hA
      have hA' : Blk 64 wr (w.heap.size + 1) (dgC Z) := hA.blk
      have hZb := hR.blk
      have HF : Hid (Blk 64 (wr.setCells w.heap.size 0 (dgC Z)) w.heap.size (dgC Z) ∧ Below w.heap.size w (wr.setCells w.heap.size 0 (dgC Z))) := ⟨hZb.fill (dgC Z) (by simp [dgC_len, HL.out.1.2]), (Upd.setCells (dgC Z) 0 wr).below hBw hBw.size (by omega)⟩
      have HQ : Hid (wr.rangeAt (w.heap.size + 1) 0 (dgC Z) ∧ wr.there w.heap.size 0 (dgC Z).toArray.size) := ⟨hA'.whole, hZb.there 0 _ (by simp [dgC_len, HL.out.1.2])⟩
      clear hA hR hBw hA' hZb HW hlt hZ HT h1
      rcases h14 with h14 | rfl
      · go_wp2_with (first
          | (refine wpList_load_mid rfl _ _ rfl (w.heap.size + 1) 0 rfl (dgC Z) _ HQ.out.1 Try.underlying64 rfl (dgC_size HL.out.1.2) ?_)
          | (refine wpList_store_mid rfl _ _ _ rfl w.heap.size 0 (dgC Z).toArray rfl rfl HQ.out.2 (dgC_size2 HL.out.1.2) (dgC_one Z) ?_))
        exact bodyPost_ret (v := .agg (dgC Z).toArray) (results_blk (b := w.heap.size) (cs := dgC Z) rfl rfl HF.out.1 Try.underlying64 rfl (dgC_size HL.out.1.2)) rfl ⟨Z, rfl, HL.out.1, HL.out.2, HF.out.2⟩
      · rcases Nat.lt_or_ge 12 X.length with h15 | h15
        all_goals
          go_wp2_with (first
            | (refine wpList_load_mid rfl _ _ rfl (w.heap.size + 1) 0 rfl (dgC Z) _ HQ.out.1 Try.underlying64 rfl (dgC_size HL.out.1.2) ?_)
            | (refine wpList_store_mid rfl _ _ _ rfl w.heap.size 0 (dgC Z).toArray rfl rfl HQ.out.2 (dgC_size2 HL.out.1.2) (dgC_one Z) ?_))
          exact bodyPost_ret (v := .agg (dgC Z).toArray) (results_blk (b := w.heap.size) (cs := dgC Z) rfl rfl HF.out.1 Try.underlying64 rfl (dgC_size HL.out.1.2)) rfl ⟨Z, rfl, HL.out.1, HL.out.2, HF.out.2⟩
end Go.Proofs.Ytkdclocjijmgpaa
/-
  The reference's field: mul, its first half (the product).
-/
namespace Go.Proofs.Ytkdclocjijmgpaa
open Go.RowKit
set_option maxRecDepth 20000
/-- A load of a long row, in a region that draws. -/
theorem wpQuiet_row {P : Program} {ops : Array Oper} {C : World → Prop} {Q : Act → Prop} {a : Act} {o : Oper} {rest : List Oper} (hg : o.guard = none) (ty : TypeId) (x : Operand) (ho : o.op = .load ty x) (b off : Nat) (hx : a.eval x = .pointer (some ⟨b, off, none⟩)) (cs : List Value) (d : TypeDesc) (hS : ∀ w, C w → w.rangeAt b off cs)
    (hu : P.underlying ty = some d) (hd : d.isRow = true) (hi : (P.info? ty).map (·.size) = some cs.length) (h : wpQuiet P ops C Q rest (a.put o.dst (.agg cs.toArray))) : wpQuiet P ops C Q (o :: rest) a := by
  refine wpQuiet_step (fun K hK => ?_)
  rw [if_pos (by unfold Region.wanted; rw [hg])]
  refine ⟨.agg cs.toArray, fun w hw' => ?_, hK _ h⟩
  unfold Oper.quietAt execOp
  simp only [ho, hx, Instr.loadAt, Instr.sureAddr, Sem.run_bind, Sem.run_pure, Result.andThen_ok, run_loadVar_mid w b off ty cs d (hS w hw') hu hd hi]
  exact ⟨rfl, rfl⟩
theorem Bks.set {w W : World} {L : List (TypeId × List Value)} (h : Bks w W L) (i : Nat) (T : TypeId) (cs : List Value) (j : Nat) (v : Value) (e : L[i]? = some (T, cs)) : Bks w (W.setCell ⟨w.heap.size + i, j, none⟩ v) (L.set i (T, cs.set j v)) := by
  have hU := Upd.set W (w.heap.size + i) j v
  refine ⟨hU.below h.1 h.1.size (by omega), fun k T' cs' e' => ?_⟩
  rw [List.getElem?_set] at e'
  split at e'
  · rename_i hij
    subst hij
    split at e'
    · cases e'
      exact (h.2 _ _ _ e).set j v
    · cases e'
  · exact hU.blk (h.2 k T' cs' e') (by omega)
theorem Bks.drewN {w W : World} {L : List (TypeId × List Value)} (h : Bks w W L) (n : Nat) : Bks w (W.drewN n) L := h.below ⟨rfl, rfl, rfl, Nat.le_refl _, fun _ _ => rfl⟩
/-- The blocks of mul: field, factors, answer, product. -/
def ML (n : Nat) (P A B T : List Int) : List (TypeId × List Value) := [(66, fdC n P), (64, dgC A), (64, dgC B), (64, z13), (111, dgC T)]
theorem ML.f {w W : World} {n : Nat} {P A B T : List Int} (h : Bks w W (ML n P A B T)) : W.cell? ⟨w.heap.size, 0, none⟩ = some (.int .i64 n) := (h.2 0 _ _ rfl).cell 0
theorem dgC_at {A : List Int} {i : Nat} (h : i < A.length) : (dgC A)[i]? = some (.int .u64 (A.getD i 0)) := by
  unfold dgC; rw [List.getElem?_map, List.getElem?_eq_getElem h, List.getD_eq_getElem?_getD, List.getElem?_eq_getElem h]; rfl
theorem ML.a {w W : World} {n : Nat} {P A B T : List Int} (h : Bks w W (ML n P A B T)) {i : Nat} (hi : i < A.length) : W.cell? ⟨w.heap.size + 1, i, none⟩ = some (.int .u64 (A.getD i 0)) := ((h.2 1 _ _ rfl).cell i).trans (dgC_at hi)
theorem ML.b {w W : World} {n : Nat} {P A B T : List Int} (h : Bks w W (ML n P A B T)) {i : Nat} (hi : i < B.length) : W.cell? ⟨w.heap.size + 1 + 1, i, none⟩ = some (.int .u64 (B.getD i 0)) := ((h.2 2 _ _ rfl).cell i).trans (dgC_at hi)
theorem ML.t {w W : World} {n : Nat} {P A B T : List Int} (h : Bks w W (ML n P A B T)) {i : Nat} (hi : i < T.length) : W.cell? ⟨w.heap.size + 1 + 1 + 1 + 1, i, none⟩ = some (.int .u64 (T.getD i 0)) := ((h.2 4 _ _ rfl).cell i).trans (dgC_at hi)
theorem ML.fz {w W : World} {n : Nat} {P A B T : List Int} (h : Bks w W (ML n P A B T)) (i : Nat) : W.frozen? ⟨w.heap.size + 1 + 1 + 1 + 1, i, none⟩ = false := (h.2 4 _ _ rfl).frozen i
theorem ML.put {w W : World} {n : Nat} {P A B T : List Int} (h : Bks w W (ML n P A B T)) (i : Nat) (x : Int) : Bks w (W.setCell ⟨w.heap.size + 1 + 1 + 1 + 1, i, none⟩ (.int .u64 x)) (ML n P A B (T.set i x)) := by
  have h2 := h.set 4 _ _ i (.int .u64 x) rfl
  have e : (dgC T).set i (.int .u64 x) = dgC (T.set i x) := by unfold dgC; rw [List.map_set]
  rw [e] at h2
  exact h2
theorem u32_prod {a b : Int} (ha : U32 a) (hb : U32 b) : 0 ≤ a * b ∧ a * b ≤ 4294967295 * 4294967295 := by
  obtain ⟨a1, a2⟩ := ha
  obtain ⟨b1, b2⟩ := hb
  exact ⟨Int.mul_nonneg a1 b1, Int.mul_le_mul (by omega) (by omega) b1 (by decide)⟩
/-- One row of the product more. -/
theorem row_end (U Z : List Int) (i n : Nat) (cy vA ai vB : Int) (hU : U.length = i + n) (hZ : Z.length = n) (h1 : val Z + 4294967296 ^ n * cy = val ((U.drop i).take n) + ai * vB) (h2 : val U = vA * vB) :
    val (U.take i ++ Z ++ [cy]) = (vA + 4294967296 ^ i * ai) * vB := by
  have e1 : val U = val (U.take i) + 4294967296 ^ i * val (U.drop i) := by
    have := val_append (U.take i) (U.drop i)
    rw [List.take_append_drop, List.length_take, Nat.min_eq_left (by omega)] at this
    exact this
  rw [List.take_of_length_le (by simp; omega)] at h1
  rw [List.append_assoc, val_append, Nt.val_snoc, List.length_take, Nat.min_eq_left (by omega), hZ, h1, Int.mul_add, ← Int.add_assoc, ← e1, h2, Int.add_mul, Int.mul_assoc]
theorem pad_take (U : List Int) (i m : Nat) (h : i ≤ U.length) : (U ++ List.replicate m 0).take i = U.take i := by rw [List.take_append_of_le_length h]
theorem pad_row (U Z : List Int) (i n : Nat) (cy : Int) (hU : U.length = i + n) (hZ : Z.length = n) (hi : i + n < 26) : ((U ++ List.replicate (26 - (i + n)) 0).take i ++ Z ++ (U ++ List.replicate (26 - (i + n)) 0).drop (i + Z.length)).set (i + n) cy = (U.take i ++ Z ++ [cy]) ++ List.replicate (26 - (i + 1 + n)) 0 := by
  have hl : (U.take i ++ Z).length = i + n := by simp; omega
  rw [pad_take _ _ _ (by omega), hZ, List.drop_append_of_le_length (by omega), List.drop_eq_nil_of_le (by omega), List.nil_append, List.set_append_right _ _ (by omega), hl, Nat.sub_self, show 26 - (i + n) = (26 - (i + 1 + n)) + 1 by omega, List.replicate_succ, List.set_cons_zero]
  simp
/-- What thirteen cells of a block read as a number: a measure. -/
def rdv (W : World) (b : Nat) : Nat := (val ((List.range 13).map fun i => match W.cell? ⟨b, i, none⟩ with | some (.int _ x) => x | _ => 0)).toNat
theorem rdv_arr {T : TypeId} {W : World} {b : Nat} {R : List Int} (h : Arr .u64 T W b R) (hR : R.length = 13) : rdv W b = (val R).toNat := by
  unfold rdv
  congr 2
  apply List.ext_getElem
  · simp [hR]
  · intro i h1 h2
    simp at h1
    rw [List.getElem_map, List.getElem_range, h.cell i (by omega)]
    simp [List.getD_eq_getElem?_getD, List.getElem?_eq_getElem h2]
theorem red_step (t k x p : Int) : (t + k * (x % p)) % p = (t + k * x) % p := by
  rw [Int.emod_def x p, Int.mul_sub, show k * (p * (x / p)) = p * (k * (x / p)) by rw [← Int.mul_assoc, Int.mul_comm k p, Int.mul_assoc], ← Int.add_sub_assoc, Int.sub_mul_emod_self_left]
theorem val_drop_at (U : List Int) (m : Nat) (h : m < U.length) : val (U.drop m) = U.getD m 0 + 4294967296 * val (U.drop (m + 1)) := by
  rw [List.drop_eq_getElem_cons h]
  simp [val, List.getD_eq_getElem?_getD, List.getElem?_eq_getElem h]
/-- Digits beyond a bound are none. -/
theorem val_take_of_lt {A : List Int} {n : Nat} (uA : U32s A) (hn : n ≤ A.length) (h : val A < 4294967296 ^ n) : val (A.take n) = val A ∧ val (A.drop n) = 0 := by
  have e1 : val A = val (A.take n) + 4294967296 ^ n * val (A.drop n) := by
    have := val_append (A.take n) (A.drop n)
    rw [List.take_append_drop, List.length_take, Nat.min_eq_left hn] at this
    exact this
  have h0 := val_nonneg (uA.take n)
  have h1 := val_nonneg (uA.drop n)
  have h2 : val (A.drop n) = 0 := by
    apply Decidable.byContradiction; intro hne
    have h3 : (4294967296 : Int) ^ n * 1 ≤ 4294967296 ^ n * val (A.drop n) := Int.mul_le_mul_of_nonneg_left (by omega) (Int.le_of_lt (Int.pow_pos (by decide)))
    omega
  rw [h2] at e1
  exact ⟨by omega, h2⟩
theorem top_le {A : List Int} {n : Nat} (uA : U32s A) (hn : n < A.length) : 4294967296 ^ n * A.getD n 0 ≤ val A := by
  have e1 : val A = val (A.take n) + 4294967296 ^ n * val (A.drop n) := by
    have := val_append (A.take n) (A.drop n)
    rw [List.take_append_drop, List.length_take, Nat.min_eq_left (by omega)] at this
    exact this
  have e2 : val (A.drop n) = A.getD n 0 + 4294967296 * val (A.drop (n + 1)) := by
    rw [List.drop_eq_getElem_cons hn]
    simp [val, List.getD_eq_getElem?_getD, List.getElem?_eq_getElem hn]
  have h0 := val_nonneg (uA.take n)
  have h1 := val_nonneg (uA.drop (n + 1))
  have h3 : (4294967296 : Int) ^ n * A.getD n 0 ≤ 4294967296 ^ n * val (A.drop n) := Int.mul_le_mul_of_nonneg_left (by omega) (Int.le_of_lt (Int.pow_pos (by decide)))
  omega
/-- Digits moved up by one, from k to n. -/
def shf (R : List Int) (n k : Nat) : List Int := R.take (k + 1) ++ (R.drop k).take (n - k) ++ R.drop (n + 1)
theorem shf_start (R : List Int) (n : Nat) : shf R n n = R := by unfold shf; simp
theorem shf_len (R : List Int) (n k : Nat) (hk : k ≤ n) (hR : n + 1 ≤ R.length) : (shf R n k).length = R.length := by unfold shf; simp; omega
theorem shf_get (R : List Int) (n k : Nat) (hk : k < n) (hR : n + 1 ≤ R.length) : (shf R n (k + 1)).getD k 0 = R.getD k 0 := by
  unfold shf
  rw [List.append_assoc, List.getD_eq_getElem?_getD, List.getElem?_append_left (by simp; omega), List.getElem?_take, if_pos (by omega), ← List.getD_eq_getElem?_getD]
theorem shf_set (R : List Int) (n k : Nat) (hk : k < n) (hR : n + 1 ≤ R.length) : (shf R n (k + 1)).set (k + 1) (R.getD k 0) = shf R n k := by
  unfold shf
  have hl : (R.take (k + 1)).length = k + 1 := by simp; omega
  have e1 : R.take (k + 1 + 1) = R.take (k + 1) ++ [R.getD (k + 1) 0] := Nt.take_snoc R (k + 1) (by omega)
  have e2 : (R.drop k).take (n - k) = R.getD k 0 :: (R.drop (k + 1)).take (n - (k + 1)) := by
    rw [List.drop_eq_getElem_cons (by omega), show n - k = (n - (k + 1)) + 1 by omega, List.take_succ_cons]
    simp [List.getD_eq_getElem?_getD, List.getElem?_eq_getElem (show k < R.length by omega)]
  rw [e1, e2, List.append_assoc, List.append_assoc, List.set_append_right _ _ (by omega), hl, Nat.sub_self, List.singleton_append, List.set_cons_zero, List.append_assoc]
  simp
theorem shf_end (R : List Int) (n : Nat) (t : Int) (hR : n + 1 ≤ R.length) : (shf R n 0).set 0 t = t :: (R.take n ++ R.drop (n + 1)) := by
  unfold shf
  obtain ⟨r, R', rfl⟩ : ∃ r R', R = r :: R' := by cases R with | nil => simp at hR | cons r R' => exact ⟨r, R', rfl⟩
  simp
theorem shf_val (R : List Int) (n : Nat) (t : Int) (uR : U32s R) (hR : n + 1 ≤ R.length) (hv : val R < 4294967296 ^ n) : val (t :: (R.take n ++ R.drop (n + 1))) = t + 4294967296 * val R := by
  obtain ⟨h1, h2⟩ := val_take_of_lt uR (by omega) hv
  have h3 : val (R.drop (n + 1)) = 0 := (val_take_of_lt uR hR (Int.lt_of_lt_of_le hv (Nt.pow_mono (by omega)))).2
  show t + 4294967296 * val (R.take n ++ R.drop (n + 1)) = _
  rw [val_append, h3, h1]; simp
end Go.Proofs.Ytkdclocjijmgpaa
/-
  The reference's field: mul, the walk.
-/
namespace Go.Proofs.Ytkdclocjijmgpaa
open Go.RowKit
set_option maxRecDepth 20000
theorem mul_step (Q cy a b t vZ vT vB : Int) (T : Int) (hT : T = t + a * b + cy) (ih : vZ + Q * cy = vT + a * vB) : vZ + Q * (T % 4294967296) + Q * 4294967296 * (T / 4294967296) = vT + Q * t + a * (vB + Q * b) := by
  have h1 : T % 4294967296 + 4294967296 * (T / 4294967296) = T := by omega
  have h2 : Q * (T % 4294967296) + Q * 4294967296 * (T / 4294967296) = Q * T := by
    rw [Int.mul_assoc, ← Int.mul_add, h1]
  have h3 : Q * T = Q * t + Q * (a * b) + Q * cy := by rw [hT, Int.mul_add, Int.mul_add]
  have h4 : a * (Q * b) = Q * (a * b) := by rw [← Int.mul_assoc, Int.mul_comm a Q, Int.mul_assoc]
  rw [Int.mul_add, h4]
  omega
theorem five0 {w : World} (n : Nat) (P A B : List Int) (o o2 : Obj) (ho : o = .cells z13.toArray 64) (ho2 : o2 = .cells (dgC (List.replicate 26 0)).toArray 111) : Bks w (((((w.alloc (.cells (fdC n P).toArray 66)).alloc (.cells (dgC A).toArray 64)).alloc (.cells (dgC B).toArray 64)).alloc o).alloc o2) (ML n P A B (List.replicate 26 0)) := by
  subst ho ho2
  exact five _ _ _ _ _ _ _ _ _ _
set_option maxHeartbeats 4000000 in
theorem rmul_any {w : World} (n : Nat) (P A B : List Int) (dP : Dg P) (dA : Dg A) (dB : Dg B) (hn : 0 < n) (hn2 : n ≤ 12) (hP : val P < 4294967296 ^ n) (hA : val A < val P) (hB : val B < val P) :
    Calls Try.prog 58 #[.agg (fdC n P).toArray, dgA A, dgA B] w fun e w' => ∃ Z, e = .returned (dgA Z) ∧ Dg Z ∧ val Z = (val A * val B) % val P ∧ Below w.heap.size w w' := by
  have HA : Hid (Dg P ∧ Dg A ∧ Dg B ∧ val P < 4294967296 ^ n ∧ val A < val P ∧ val B < val P) := ⟨dP, dA, dB, hP, hA, hB⟩
  clear dP dA dB hP hA hB
  go_enter Try.func58, Try.ntmps58
  go_upto_region 2 with (first
    | refine wpList_boxR rfl 66 (.tmp 0) rfl (fdC n P).toArray rfl ?_
    | refine wpList_boxR rfl 64 (.tmp 1) rfl (dgC A).toArray rfl ?_
    | refine wpList_boxR rfl 64 (.tmp 2) rfl (dgC B).toArray rfl ?_)
  refine wp_gen (fun W => Bks w W (ML n P A B (List.replicate 26 0))) (five0 n P A B _ _ rfl rfl) ?_
  intro W2 hW2
  have H2 : Hid (Bks w W2 (ML n P A B (List.replicate 26 0))) := hW2
  clear hW2
  go_wp2
  go_loopw [8] (fun iv wr => ∃ (i : Nat) (U : List Int), iv = .int .i64 i ∧ i ≤ n ∧ Hid (U32s U ∧ U.length = i + n ∧ val U = val (A.take i) * val (B.take n)) ∧ Hid (Bks w wr (ML n P A B (U ++ List.replicate (26 - (i + n)) 0)))) (fun iv _ => n - (intOf iv).toNat)
  case atStart =>
    refine ⟨0, List.replicate n 0, rfl, by omega, ⟨u32s_zeros _, by simp, by rw [val_zeros]; simp [val]⟩, ?_⟩
    have e : List.replicate n (0 : Int) ++ List.replicate (26 - (0 + n)) 0 = List.replicate 26 0 := by rw [List.replicate_append_replicate]; congr 1; omega
    show Bks _ _ _
    rw [e]; exact H2.out
  case round =>
    clear H2
    obtain ⟨i, U, rfl, hi, HU, HM⟩ := hrel
    have hf0 := ML.f HM.out
    by_cases hin : i < n
    · obtain ⟨T0, hT0⟩ : ∃ T0, U ++ List.replicate (26 - (i + n)) 0 = T0 := ⟨_, rfl⟩
      rw [hT0] at HM
      have HT : Hid (U ++ List.replicate (26 - (i + n)) 0 = T0) := hT0
      have HT2 : Hid (T0.length = 26 ∧ U32s T0) := ⟨by rw [← hT0]; simp [HU.out.2.1]; omega, by rw [← hT0]; exact HU.out.1.append (u32s_zeros _)⟩
      obtain ⟨ai, hai⟩ : ∃ x, A.getD i 0 = x := ⟨_, rfl⟩
      have HAi : Hid (A.getD i 0 = ai ∧ U32 ai) := ⟨hai, hai ▸ HA.out.2.1.1.at _⟩
      clear hT0 hai
      go_wp2
      go_loopw [9, 10] (fun c kv wr => ∃ (Z : List Int) (cy : Int), kv = .int .i64 Z.length ∧ c = .int .u64 cy ∧ Z.length ≤ n ∧ 0 ≤ cy ∧ cy < 4294967296 ∧ Hid (U32s Z ∧ val Z + 4294967296 ^ Z.length * cy = val ((T0.drop i).take Z.length) + ai * val (B.take Z.length)) ∧ Hid (Bks w wr (ML n P A B (T0.take i ++ Z ++ T0.drop (i + Z.length))))) (fun _ kv _ => n - (intOf kv).toNat)
      case atStart =>
        refine ⟨[], 0, rfl, rfl, by simp, by omega, by omega, ⟨U32s.nil, by simp [val]⟩, ?_⟩
        show Bks _ _ _
        simpa using HM.out
      case round =>
        clear HM hf0
        obtain ⟨Z, cy, rfl, rfl, hZl, hc0, hc1, HZ, HW⟩ := hrel
        have hf0 := ML.f HW.out
        by_cases hlt : Z.length < n
        · obtain ⟨k, hk⟩ : ∃ k, Z.length = k := ⟨_, rfl⟩
          obtain ⟨m, hm⟩ : ∃ m, i + Z.length = m := ⟨_, rfl⟩
          have lM : (T0.take i ++ Z ++ T0.drop (i + Z.length)).length = 26 := by rw [Nt.mid_len _ _ _ (by have := HT2.out.1; omega), HT2.out.1]
          have c1 := ML.t HW.out (i := i + Z.length) (by omega)
          have c2 := ML.a HW.out (i := i) (by have := HA.out.2.1.2; omega)
          have c3 := ML.b HW.out (i := Z.length) (by have := HA.out.2.2.1.2; omega)
          have g1 := ML.fz HW.out (i + Z.length)
          rw [Nt.mid_get] at c1
          rw [HAi.out.1] at c2
          obtain ⟨t, ht⟩ : ∃ x, T0.getD (i + Z.length) 0 = x := ⟨_, rfl⟩
          obtain ⟨b, hb⟩ : ∃ x, B.getD Z.length 0 = x := ⟨_, rfl⟩
          have ut : U32 t := ht ▸ HT2.out.2.at _
          have ub : U32 b := hb ▸ HA.out.2.2.1.1.at _
          obtain ⟨q0, q1⟩ := u32_prod HAi.out.2 ub
          obtain ⟨ut1, ut2⟩ := ut
          rw [ht] at c1; rw [hb] at c3
          have HX : Hid (T0.getD (i + Z.length) 0 = t ∧ B.getD Z.length 0 = b ∧ Z.length = k ∧ i + Z.length = m) := ⟨ht, hb, hk, hm⟩
          rw [hm] at c1 g1
          have hmi : (i : Int) + k = m := by omega
          have hm26 : m < 26 := by omega
          have hk13 : k < 13 := by omega
          have hi13 : i < 13 := by omega
          rw [hk] at c3 hlt
          rw [hk]
          obtain ⟨pr, hpr⟩ : ∃ x, ai * b = x := ⟨_, rfl⟩
          rw [hpr] at q0 q1
          have HP : Hid (ai * b = pr) := hpr
          have hand := Nt.and32 (t + pr + cy) (by omega) (by omega)
          clear ht hb hk hm lM ub hZl
          go_wp2
          go_quiet (fail)
          go_wp2
          go_roundw
          case rel =>
            obtain ⟨ht, hb, hk, hm⟩ := HX.out
            have hT26 := HT2.out.1
            have hB13 := HA.out.2.2.1.2
            refine ⟨Z ++ [(t + pr + cy) % 4294967296], (t + pr + cy) / 4294967296, by simp [hk], rfl, by simp; omega, by omega, by omega, ⟨HZ.out.1.append (U32s.cons ⟨by omega, by omega⟩ U32s.nil), ?_⟩, ?_⟩
            · have hgd : (T0.drop i).getD Z.length 0 = t := by rw [List.getD_eq_getElem?_getD, List.getElem?_drop, ← List.getD_eq_getElem?_getD]; exact ht
              rw [Nt.val_snoc, List.length_append, List.length_singleton, Nt.val_take_succ (T0.drop i) _ (by simp; omega), Nt.val_take_succ B _ (by omega), hgd, hb, Int.pow_succ]
              exact mul_step _ cy ai b t _ _ _ _ (by rw [HP.out]) HZ.out.2
            · have h := ML.put (HW.out.drewN nq) m ((t + pr + cy) % 4294967296)
              rw [← hm, Nt.mid_set _ _ _ _ (by omega), hm] at h
              exact h
          case measure => simp [intOf]; omega
        · have hk : Z.length = n := by omega
          have lM : (T0.take i ++ Z ++ T0.drop (i + Z.length)).length = 26 := by rw [Nt.mid_len _ _ _ (by have := HT2.out.1; omega), HT2.out.1]
          obtain ⟨m, hm⟩ : ∃ m, i + n = m := ⟨_, rfl⟩
          have c1 := ML.t HW.out (i := m) (by omega)
          have g1 := ML.fz HW.out m
          obtain ⟨t, ht⟩ : ∃ x, (T0.take i ++ Z ++ T0.drop (i + Z.length)).getD m 0 = x := ⟨_, rfl⟩
          rw [ht] at c1
          have HX : Hid (Z.length = n ∧ i + n = m) := ⟨hk, hm⟩
          have hmi : (i : Int) + n = m := by omega
          have hm26 : m < 26 := by omega
          rw [hk]
          clear ht lM hlt hZl hk hm
          go_wp2
          go_roundw
          case rel =>
            obtain ⟨hk, hm⟩ := HX.out
            have hA13 := HA.out.2.1.2
            have hz := HZ.out.2
            obtain ⟨hU1, hU2, hU3⟩ := HU.out
            rw [hk, ← HT.out, List.drop_append_of_le_length (by omega), List.take_append_of_le_length (by simp; omega)] at hz
            refine ⟨i + 1, U.take i ++ Z ++ [cy], by go_num, by omega, ⟨((hU1.take i).append HZ.out.1).append (U32s.cons ⟨by omega, by omega⟩ U32s.nil), by simp; omega, ?_⟩, ?_⟩
            · rw [Nt.val_take_succ A _ (by omega), HAi.out.1]
              exact row_end U Z i n cy _ ai _ hU2 hk hz hU3
            · have h := ML.put HW.out m cy
              rw [← HT.out, ← hm, pad_row U Z i n cy hU2 hk (by omega)] at h
              rw [← hm]
              exact h
          case measure => simp [intOf]; omega
    · have hi2 : n = i := by omega
      subst hi2
      have HT : Hid (U32s U ∧ U.length = n + n ∧ val U = val A * val B) := by
        obtain ⟨h1, h2, h3⟩ := HU.out
        obtain ⟨dP, dA, dB, hP, hA, hB⟩ := HA.out
        refine ⟨h1, h2, ?_⟩
        rw [h3, (val_take_of_lt dA.1 (by rw [dA.2]; omega) (by omega)).1, (val_take_of_lt dB.1 (by rw [dB.2]; omega) (by omega)).1]
      have HP0 : Hid (0 < val P) := by
        have h1 := val_nonneg HA.out.2.1.1
        have h2 := HA.out.2.2.2.2.1
        show 0 < val P
        omega
      rename World => wo
      clear HU hin hi
      go_upto_region 14 with (fail)
      clear hf0
      refine wp_gen (fun W => Below wo.heap.size wo W ∧ Arr .u64 64 W wo.heap.size (List.replicate 13 0)) ⟨al1 _, (Blk.new 64 wo z13).arr (xs := List.replicate 13 0)⟩ ?_
      rintro W3 ⟨hb3, hA3⟩
      have hf0 := ML.f (HM.out.below hb3)
      have H3 : Hid (Below wo.heap.size wo W3 ∧ Arr .u64 64 W3 wo.heap.size (List.replicate 13 0)) := ⟨hb3, hA3⟩
      clear hb3 hA3
      go_wp2
      go_loopw [13] (fun iv W => ∃ (j : Nat) (R : List Int), iv = .int .i64 ((j : Int) - 1) ∧ j ≤ n + n ∧ Hid (Dg R ∧ val R = val (U.drop j) % val P) ∧ Hid (Below wo.heap.size wo W ∧ Arr .u64 64 W wo.heap.size R)) (fun iv _ => ((intOf iv) + 1).toNat)
      case atStart =>
        refine ⟨n + n, List.replicate 13 0, by go_num, Nat.le_refl _, ⟨⟨u32s_zeros _, by simp⟩, ?_⟩, H3.out⟩
        rw [val_zeros, List.drop_eq_nil_of_le (by have := HT.out.2.1; omega)]; simp [val]
      case round =>
        clear H3 hf0
        obtain ⟨j, R, rfl, hj, HR, HW⟩ := hrel
        cases j with
        | zero =>
          rw [show ((0 : Nat) : Int) - 1 = -1 from rfl]
          have HV : Hid (val R = val A * val B % val P) := by
            show _ = _
            rw [HR.out.2, List.drop_zero, HT.out.2.2]
          have HB : Hid (wr.rangeAt wo.heap.size 0 (dgC R)) := HW.out.2.blk.whole
          go_wp2_with (first
            | (refine wpList_load_mid rfl _ _ rfl wo.heap.size 0 rfl (dgC R) _ HB.out Try.underlying64 rfl (dgC_size HR.out.1.2) ?_)
            | (refine wpList_store_mid rfl _ _ _ rfl (w.heap.size + 1 + 1 + 1) 0 (dgC R).toArray rfl rfl ((HM.out.below HW.out.1).there 3 _ z13 rfl _ (by simp [dgC_len, HR.out.1.2, z13])) (dgC_size2 HR.out.1.2) (dgC_one R) ?_))
          have hN := (HM.out.below HW.out.1).store 3 _ z13 (dgC R) rfl (by simp [dgC_len, HR.out.1.2, z13])
          exact bodyPost_ret (v := .agg (dgC R).toArray) (results_blk (b := w.heap.size + 1 + 1 + 1) (cs := dgC R) rfl rfl (hN.2 3 _ _ rfl) Try.underlying64 rfl (dgC_size HR.out.1.2)) rfl ⟨R, rfl, HR.out.1, HV.out, hN.1⟩
        | succ m =>
          have hi1 : ((m + 1 : Nat) : Int) - 1 = m := by omega
          rw [hi1]
          clear hi1
          have hf0 := ML.f (HM.out.below HW.out.1)
          go_wp2
          go_loopw [14] (fun kv W => ∃ k : Nat, kv = .int .i64 k ∧ k ≤ n ∧ Hid (Below wo.heap.size wo W ∧ Arr .u64 64 W wo.heap.size (shf R n k))) (fun kv _ => (intOf kv).toNat)
          case atStart => exact ⟨n, rfl, Nat.le_refl _, HW.out.1, by rw [shf_start]; exact HW.out.2⟩
          case round =>
            clear hf0 HW
            obtain ⟨k, rfl, hk, HW⟩ := hrel
            have hl := shf_len R n k hk (by rw [HR.out.1.2]; omega)
            rw [HR.out.1.2] at hl
            cases k with
            | zero =>
              obtain ⟨t, ht⟩ : ∃ t, U.getD m 0 = t := ⟨_, rfl⟩
              have c1 := ML.t (HM.out.below HW.out.1) (i := m) (by have := HT.out.2.1; simp; omega)
              have hg : (U ++ List.replicate (26 - (n + n)) 0).getD m 0 = t := by
                rw [List.getD_eq_getElem?_getD, List.getElem?_append_left (by have := HT.out.2.1; omega), ← List.getD_eq_getElem?_getD, ht]
              rw [hg] at c1
              obtain ⟨y, hy⟩ : ∃ y, (shf R n 0).getD 0 0 = y := ⟨_, rfl⟩
              have c2 := HW.out.2.cell 0 (by omega)
              have g2 := HW.out.2.frozen 0
              rw [hy] at c2
              have hm26 : m < 26 := by omega
              have HE : Hid (U.getD m 0 = t) := ht
              clear ht hg hy
              go_upto_region 22 with (fail)
              obtain ⟨R2, hR2⟩ : ∃ R2, t :: (R.take n ++ R.drop (n + 1)) = R2 := ⟨_, rfl⟩
              have HR2 : Hid (Dg R2 ∧ val R2 = t + 4294967296 * val R) := by
                have hR13 := HR.out.1.2
                refine ⟨⟨?_, ?_⟩, ?_⟩
                · rw [← hR2]; exact U32s.cons (HE.out ▸ HT.out.1.at _) ((HR.out.1.1.take n).append (HR.out.1.1.drop _))
                · rw [← hR2]; simp; omega
                · rw [← hR2]
                  refine shf_val R n t HR.out.1.1 (by omega) ?_
                  rw [HR.out.2]
                  have h1 := Int.emod_lt_of_pos (val (U.drop (m + 1))) HP0.out
                  have h2 := HA.out.2.2.2.1
                  omega
              refine wp_gen (fun W => Below wo.heap.size wo W ∧ Arr .u64 64 W wo.heap.size R2) ⟨Below.setCell (p := ⟨wo.heap.size, 0, none⟩) HW.out.1 (Nat.le_refl _) _, by have h := HW.out.2.set 0 t; rw [shf_end _ _ _ (by rw [HR.out.1.2]; omega), hR2] at h; exact h⟩ ?_
              rintro W5 ⟨hb5, hA5⟩
              clear hR2 c1 c2 g2 hl HW
              obtain ⟨q, hq⟩ : ∃ q, R2.getD n 0 = q := ⟨_, rfl⟩
              have hu70 := Try.underlying64
              have hsR := dgC_size HR2.out.1.2
              have hsP := dgC_size HA.out.1.2
              have hlR : (dgC R2).length = 13 := by rw [dgC_len]; exact HR2.out.1.2
              have hlP : (dgC P).length = 13 := by rw [dgC_len]; exact HA.out.1.2
              have HS0 : Hid (Below wo.heap.size wo W5.drew ∧ W5.drew.rangeAt wo.heap.size 0 (dgC R2) ∧ W5.drew.rangeAt w.heap.size 1 (dgC P) ∧ W5.drew.cell? ⟨w.heap.size, 0, none⟩ = some (.int .i64 n) ∧ W5.drew.cell? ⟨wo.heap.size, n, none⟩ = some (.int .u64 q)) := by
                have hb5d : Below wo.heap.size wo W5.drew := hb5.drew
                have hA5d : Arr .u64 64 W5.drew wo.heap.size R2 := hA5
                refine ⟨hb5d, hA5d.blk.whole, (HM.out.below hb5d).pr n P rfl, ML.f (HM.out.below hb5d), ?_⟩
                rw [hA5d.cell n (by rw [HR2.out.1.2]; omega), hq]
              have HK : Hid (Arr .u64 64 W5.drew wo.heap.size R2 ∧ R2.getD n 0 = q) := ⟨hA5, hq⟩
              have H5b : Hid (Below wo.heap.size wo W5) := hb5
              have hn13 : n < 13 := by omega
              clear hb5 hA5 hq
              have HQ : Hid (q * val P ≤ val R2 ∧ U32 q) := by
                have h1 := top_le HR2.out.1.1 (n := n) (by rw [HR2.out.1.2]; omega)
                rw [HK.out.2] at h1
                have uq : U32 q := HK.out.2 ▸ HR2.out.1.1.at n
                have h2 : q * val P ≤ q * 4294967296 ^ n := Int.mul_le_mul_of_nonneg_left (Int.le_of_lt HA.out.2.2.2.1) uq.1
                rw [Int.mul_comm q (4294967296 ^ n)] at h2
                exact ⟨Int.le_trans h2 h1, uq⟩
              have uq1 := HQ.out.2.1
              have uq2 := HQ.out.2.2
              have hcn : W5.cell? ⟨w.heap.size, 0, none⟩ = some (.int .i64 n) := HS0.out.2.2.2.1
              have hcq : W5.cell? ⟨wo.heap.size, n, none⟩ = some (.int .u64 q) := HS0.out.2.2.2.2
              refine wp_region_qsd 7 (by kernel_rfl) (by kernel_rfl) ?_
              simp only [List.take_succ_cons, List.take_zero, List.drop_succ_cons, List.drop_zero]
              refine wpQuiet_row rfl 64 (.tmp 12) rfl wo.heap.size 0 rfl (dgC R2) _ (by rintro _ ⟨z, rfl⟩; exact HS0.out.2.1) hu70 rfl hsR ?_
              simp only [Act.put, List.setIfInBounds_toArray, List.set_cons_zero, List.set_cons_succ]
              go_big_quiet_step (fail)
              refine wpQuiet_row rfl 64 (.tmp 81) rfl w.heap.size 1 rfl (dgC P) _ (by rintro _ ⟨z, rfl⟩; exact HS0.out.2.2.1) hu70 rfl hsP ?_
              simp only [Act.put, List.setIfInBounds_toArray, List.set_cons_zero, List.set_cons_succ]
              repeat (go_big_quiet_step (fail))
              refine wpQuiet_nil ?_
              rintro _ ⟨nq, rfl⟩
              clear hcn hcq hsR hsP hlR hlP hu70
              go_wp2_with fail
              refine (minus_any R2 P HR2.out.1.1 HA.out.1.1 HR2.out.1.2 HA.out.1.2 q HQ.out.2 HQ.out.1).mono ?_
              rintro e w6 ⟨Z, rfl, uZ, lZ, vZ, hb6⟩
              have HZ : Hid (Dg Z ∧ val Z % val P = val R2 % val P) := ⟨⟨uZ, lZ⟩, by rw [vZ, Int.sub_emod, Int.mul_emod_left, Int.sub_zero, Int.emod_emod]⟩
              have H6 : Hid (Below wo.heap.size wo w6 ∧ Arr .u64 64 w6 wo.heap.size R2) := by
                have h1 : Below wo.heap.size wo (W5.drewN nq) := H5b.out.trans ⟨rfl, rfl, rfl, Nat.le_refl _, fun _ _ => rfl⟩
                have h2 : Arr .u64 64 (W5.drewN nq) wo.heap.size R2 := HK.out.1
                exact ⟨below_via h1 hb6 (Nat.le_refl _), below_arr hb6 h2.lt h2⟩
              clear uZ lZ vZ hb6 HS0 HK HQ uq1 uq2
              go_wp2_with (refine wpList_store_mid rfl _ _ _ rfl wo.heap.size 0 (dgC Z).toArray rfl rfl (H6.out.2.blk.there 0 _ (by simp [dgC_len, HR2.out.1.2, HZ.out.1.2])) (dgC_size2 HZ.out.1.2) (dgC_one Z) ?_)
              simp only [Act.put]
              go_loopw [] (fun W => ∃ Z : List Int, Hid (Dg Z ∧ val Z % val P = val R2 % val P) ∧ Hid (Below wo.heap.size wo W ∧ Arr .u64 64 W wo.heap.size Z)) (fun W => rdv W wo.heap.size)
              case atStart => exact ⟨Z, HZ.out, (Upd.setCells (b := wo.heap.size) (dgC Z) 0 w6).below H6.out.1 H6.out.1.size (Nat.le_refl _), (H6.out.2.blk.fill (dgC Z) (by simp [dgC_len, HR2.out.1.2, HZ.out.1.2])).arr⟩
              case round =>
                clear HZ H6
                obtain ⟨Z, HZ, HW⟩ := hrel
                go_wp2_with (first
                  | (refine wpList_load_mid rfl 64 (.tmp 12) rfl (wo.heap.size) 0 rfl (dgC Z) _ HW.out.2.blk.whole Try.underlying64 rfl (dgC_size HZ.out.1.2) ?_)
                  | (refine wpList_load_mid rfl 64 (.tmp 89) rfl (w.heap.size) 1 rfl (dgC P) _ ((HM.out.below HW.out.1).pr n P rfl) Try.underlying64 rfl (dgC_size HA.out.1.2) ?_))
                refine (less_any Z P HZ.out.1.1 HA.out.1.1 HZ.out.1.2 HA.out.1.2).mono ?_
                rintro e w7 ⟨rfl, hb7⟩
                have H7 : Hid (Below wo.heap.size wo w7 ∧ Arr .u64 64 w7 wo.heap.size Z) := ⟨below_via HW.out.1 hb7 (Nat.le_refl _), below_arr hb7 HW.out.2.lt HW.out.2⟩
                have HV : Hid (rdv wr wo.heap.size = (val Z).toNat) := rdv_arr HW.out.2 HZ.out.1.2
                clear hb7 HW
                by_cases hlt : val Z < val P
                · have dl : decide (val Z < val P) = true := by simpa using hlt
                  rw [dl]
                  have HF : Hid (val Z = val (U.drop m) % val P) := by
                    show _ = _
                    rw [val_drop_at U m (by have := HT.out.2.1; omega), HE.out, ← red_step, ← HR.out.2, ← HR2.out.2, ← HZ.out.2, Int.emod_eq_of_lt (val_nonneg HZ.out.1.1) hlt]
                  clear hlt dl HV
                  go_wp2
                  go_roundw
                  case rel => exact ⟨m, Z, by go_num, by omega, ⟨HZ.out.1, HF.out⟩, H7.out⟩
                  case measure => simp [intOf]; try omega
                · have dl : decide (val Z < val P) = false := by simpa using hlt
                  rw [dl]
                  have HQ : Hid (1 * val P ≤ val Z) := by show _ ≤ _; omega
                  clear hlt dl
                  go_wp2_with (first
                    | (refine wpList_load_mid rfl 64 (.tmp 12) rfl (wo.heap.size) 0 rfl (dgC Z) _ H7.out.2.blk.whole Try.underlying64 rfl (dgC_size HZ.out.1.2) ?_)
                    | (refine wpList_load_mid rfl 64 (.tmp 94) rfl (w.heap.size) 1 rfl (dgC P) _ ((HM.out.below H7.out.1).pr n P rfl) Try.underlying64 rfl (dgC_size HA.out.1.2) ?_))
                  refine (minus_any Z P HZ.out.1.1 HA.out.1.1 HZ.out.1.2 HA.out.1.2 1 ⟨by decide, by decide⟩ HQ.out).mono ?_
                  rintro e w8 ⟨Y, rfl, uY, lY, vY, hb8⟩
                  have HY : Hid (Dg Y ∧ val Y = val Z - 1 * val P) := ⟨⟨uY, lY⟩, vY⟩
                  have H8 : Hid (Below wo.heap.size wo w8 ∧ Arr .u64 64 w8 wo.heap.size Z) := ⟨below_via H7.out.1 hb8 (Nat.le_refl _), below_arr hb8 H7.out.2.lt H7.out.2⟩
                  have hAY : Arr .u64 64 (w8.setCells wo.heap.size 0 (dgC Y)) wo.heap.size Y := (H8.out.2.blk.fill (dgC Y) (by simp [dgC_len, HY.out.1.2, HZ.out.1.2])).arr
                  have HL : Hid (Arr .u64 64 (w8.setCells wo.heap.size 0 (dgC Y)) wo.heap.size Y ∧ rdv (w8.setCells wo.heap.size 0 (dgC Y)) wo.heap.size < rdv wr wo.heap.size) := by
                    refine ⟨hAY, ?_⟩
                    rw [HV.out, rdv_arr hAY HY.out.1.2, HY.out.2]
                    have h1 := HQ.out
                    have h2 := HP0.out
                    omega
                  clear uY lY vY hb8 hAY H7
                  go_wp2_with (refine wpList_store_mid rfl _ _ _ rfl wo.heap.size 0 (dgC Y).toArray rfl rfl (H8.out.2.blk.there 0 _ (by simp [dgC_len, HY.out.1.2, HZ.out.1.2])) (dgC_size2 HY.out.1.2) (dgC_one Y) ?_)
                  simp only [Act.put]
                  go_roundw
                  case rel => exact ⟨Y, ⟨HY.out.1, by rw [HY.out.2, Int.one_mul, Int.sub_emod_right, HZ.out.2]⟩, (Upd.setCells (b := wo.heap.size) (dgC Y) 0 w8).below H8.out.1 H8.out.1.size (Nat.le_refl _), HL.out.1⟩
                  case measure => exact HL.out.2
            | succ k =>
              obtain ⟨x, hx⟩ : ∃ x, R.getD k 0 = x := ⟨_, rfl⟩
              obtain ⟨y, hy⟩ : ∃ y, (shf R n (k + 1)).getD (k + 1) 0 = y := ⟨_, rfl⟩
              have c1 := HW.out.2.cell k (by omega)
              have c2 := HW.out.2.cell (k + 1) (by omega)
              have g2 := HW.out.2.frozen (k + 1)
              rw [shf_get _ _ _ (by omega) (by rw [HR.out.1.2]; omega), hx] at c1
              rw [hy] at c2
              have hki : ((k + 1 : Nat) : Int) - 1 = k := by omega
              have hk13 : k + 1 < 13 := by omega
              have HE : Hid (R.getD k 0 = x) := hx
              clear hx hy hl
              go_wp2
              go_roundw
              case rel =>
                refine ⟨k, by go_num, by omega, Below.setCell (p := ⟨wo.heap.size, k + 1, none⟩) HW.out.1 (Nat.le_refl _) _, ?_⟩
                have h := HW.out.2.set (k + 1) x
                rw [← HE.out, shf_set _ _ _ (by omega) (by rw [HR.out.1.2]; omega)] at h
                rw [← HE.out]
                exact h
              case measure => simp [intOf]
end Go.Proofs.Ytkdclocjijmgpaa
/-
  The reference's curves: Prime, Order, Size. (wip/mku22.py)
-/
namespace Go.Proofs.Ytkdclocjijmgpaa
open Go.RowKit
set_option maxRecDepth 20000
set_option maxHeartbeats 2000000 in
theorem RPrime_any {w : World} (c : Int) : Calls Try.prog 37 #[.int .i64 c] w fun e w' => ∃ r, e = .returned r ∧ Nb w' r (crvN (·.p) (crv c)) ∧ Below w.heap.size w w' := by
  by_cases h1 : c = 1
  · subst h1
    have HL : Hid (lim (crvN (·.p) (crv 1)) = [4294967295, 4294967295, 4294967295, 0, 0, 0, 1, 4294967295]) := lim256p
    go_enter Try.func37, Try.ntmps37
    go_wp2
    go_ret
    exact ⟨_, rfl, nb_new [4294967295, 4294967295, 4294967295, 0, 0, 0, 1, 4294967295] _ HL.out, al1 _⟩
  by_cases h2 : c = 2
  · subst h2
    have HL : Hid (lim (crvN (·.p) (crv 2)) = [4294967295, 0, 0, 4294967295, 4294967294, 4294967295, 4294967295, 4294967295, 4294967295, 4294967295, 4294967295, 4294967295]) := lim384p
    go_enter Try.func37, Try.ntmps37
    go_wp2
    go_ret
    exact ⟨_, rfl, nb_new [4294967295, 0, 0, 4294967295, 4294967294, 4294967295, 4294967295, 4294967295, 4294967295, 4294967295, 4294967295, 4294967295] _ HL.out, al1 _⟩
  · have HN : Hid (crv c = none) := by show _ = _; unfold crv; rw [if_neg h1, if_neg h2]
    go_enter Try.func37, Try.ntmps37
    go_wp2
    go_ret
    exact ⟨_, rfl, by rw [HN.out]; exact nil_nb _, Below.refl _ _⟩
theorem crv_sz (c : Int) : 4 * (lim (crvN (·.p) (crv c))).length = crvN (·.sz) (crv c) ∧ (lim (crvN (·.p) (crv c))).length ≤ 12 := by
  by_cases h1 : c = 1
  · subst h1
    have e : lim (crvN (·.p) (crv 1)) = [4294967295, 4294967295, 4294967295, 0, 0, 0, 1, 4294967295] := lim256p
    rw [e]; exact ⟨rfl, by decide⟩
  by_cases h2 : c = 2
  · subst h2
    have e : lim (crvN (·.p) (crv 2)) = [4294967295, 0, 0, 4294967295, 4294967294, 4294967295, 4294967295, 4294967295, 4294967295, 4294967295, 4294967295, 4294967295] := lim384p
    rw [e]; exact ⟨rfl, by decide⟩
  · have hn : crv c = none := by unfold crv; rw [if_neg h1, if_neg h2]
    rw [hn]
    have e : lim (crvN (·.p) none) = [] := by unfold crvN; unfold lim; rfl
    rw [e]; exact ⟨rfl, by decide⟩
end Go.Proofs.Ytkdclocjijmgpaa
