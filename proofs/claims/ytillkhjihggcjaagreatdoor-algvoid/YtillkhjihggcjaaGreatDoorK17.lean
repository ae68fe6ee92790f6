/-
  Der: what is laid is split as it was, over lists of bytes; no Go text in sight.
-/
import Derived.Test.YtillkhjihggcjaaGreatDoorK16
namespace Go.Proofs.YtillkhjihggcjaaGreatDoor
open Go.RowKit
/-- M reads e from place p on. -/
def At (M : List Int) (p : Nat) (e : List Int) : Prop := p + e.length ≤ M.length ∧ ∀ q, q < e.length → M.getD (p + q) 0 = e.getD q 0
theorem At.left {M : List Int} {p : Nat} {a b : List Int} (h : At M p (a ++ b)) : At M p a := by
  obtain ⟨h1, h2⟩ := h
  rw [List.length_append] at h1 h2
  refine ⟨by omega, fun q hq => ?_⟩
  rw [h2 q (by omega)]
  simp [List.getD, List.getElem?_append_left hq]
theorem At.right {M : List Int} {p : Nat} {a b : List Int} (h : At M p (a ++ b)) : At M (p + a.length) b := by
  obtain ⟨h1, h2⟩ := h
  rw [List.length_append] at h1 h2
  refine ⟨by omega, fun q hq => ?_⟩
  have := h2 (a.length + q) (by omega)
  rw [← Nat.add_assoc] at this
  rw [this]
  simp [List.getD, List.getElem?_append_right (show a.length ≤ a.length + q by omega)]
theorem At.take {M : List Int} {p : Nat} {e : List Int} (h : At M p e) : (M.drop p).take e.length = e := by
  obtain ⟨h1, h2⟩ := h
  refine List.ext_getElem (by simp; omega) fun q hq hq' => ?_
  have := h2 q hq'
  simp only [List.getElem_take, List.getElem_drop]
  rw [List.getD_eq_getElem?_getD, List.getD_eq_getElem?_getD, List.getElem?_eq_getElem (by omega), List.getElem?_eq_getElem hq'] at this
  simpa using this
theorem tp_get (n k : Nat) : ∀ i q, q < i → (tp n k i).getD q 0 = gr n (k - q)
  | 0, q, h => by omega
  | i + 1, q, h => by
    show (tp n k i ++ [gr n (k - i)]).getD q 0 = _
    by_cases hq : q < i
    · have := tp_get n k i q hq
      simp only [List.getD_eq_getElem?_getD] at this ⊢
      rw [List.getElem?_append_left (by rw [tp_len]; exact hq)]; exact this
    · obtain rfl : q = i := by omega
      simp [List.getD, tp_len]
theorem tb_get (n c : Nat) : ∀ i q, q < i → (tb n c i).getD q 0 = by8 n (c - 1 - q)
  | 0, q, h => by omega
  | i + 1, q, h => by
    show (tb n c i ++ [by8 n (c - 1 - i)]).getD q 0 = _
    by_cases hq : q < i
    · have := tb_get n c i q hq
      simp only [List.getD_eq_getElem?_getD] at this ⊢
      rw [List.getElem?_append_left (by rw [tb_len]; exact hq)]; exact this
    · obtain rfl : q = i := by omega
      simp [List.getD, tb_len]
theorem sev_len (k n : Nat) : (sev k n).length = k + 1 := by unfold sev; rw [List.length_append, tp_len]; rfl
theorem sev_get (k n q : Nat) (hq : q < k) : (sev k n).getD q 0 = gr n (k - q) := by
  have := tp_get n k k q hq
  unfold sev
  simp only [List.getD_eq_getElem?_getD] at this ⊢
  rw [List.getElem?_append_left (by rw [tp_len]; exact hq)]; exact this
theorem sev_last (k n : Nat) : (sev k n).getD k 0 = ((n % 128 : Nat) : Int) := by
  unfold sev
  simp [List.getD, tp_len]
theorem gr_step (n j : Nat) : n / 128 ^ (j + 1) * 128 + n / 128 ^ j % 128 = n / 128 ^ j := by
  rw [Nat.pow_succ, ← Nat.div_div_eq_div_mul]; omega
/-- A long tag is read as it was laid. -/
theorem lng_sev {M : List Int} {p : Nat} (k n : Nat) (hA : At M p (sev k n)) (hk : n / 128 ^ k < 128) (hk1 : ∀ j, j < k → 128 ≤ n / 128 ^ j) (h31 : 31 ≤ n) (hn : n ≤ 268435455) :
    lng M p 0 = .inr ((n : Int), (p + k + 1)) := by
  have hl := hA.1
  rw [sev_len] at hl
  have key : ∀ d i, i + d = k → ∀ t : Nat, (i = 0 → t = 0) → (0 < i → t = n / 128 ^ (d + 1)) → lng M (p + i) (t : Int) = .inr ((n : Int), (p + k + 1)) := by
    intro d
    induction d with
    | zero =>
      intro i hi t h0 h1
      obtain rfl : i = k := by omega
      have hx := hA.2 i (by rw [sev_len]; omega)
      rw [sev_last] at hx
      have ht : t * 128 + n % 128 = n := by
        by_cases hi0 : i = 0
        · subst hi0
          have := h0 rfl
          subst this
          simp at hk
          omega
        · have := h1 (by omega)
          rw [this]
          have := gr_step n 0
          simp at this ⊢
          omega
      rw [lng_step (by omega) hx rfl, if_neg (by omega), if_pos (by omega)]
      refine congrArg Sum.inr (Prod.ext ?_ ?_)
      · simp only []; omega
      · simp only []
    | succ d ih =>
      intro i hi t h0 h1
      have hx := hA.2 i (by rw [sev_len]; omega)
      rw [sev_get k n i (by omega), show k - i = d + 1 by omega] at hx
      obtain ⟨v, hv⟩ : ∃ v, n / 128 ^ (d + 1) = v := ⟨_, rfl⟩
      have hgr : gr n (d + 1) = ((v % 128 + 128 : Nat) : Int) := by unfold gr; rw [hv]
      rw [hgr] at hx
      have hvn : v ≤ n := by rw [← hv]; exact Nat.div_le_self _ _
      have hv1 : 1 ≤ v := by
        have := hk1 d (by omega)
        have h3 := gr_step n d
        rw [hv] at h3
        omega
      have ht : t * 128 + v % 128 = v := by
        by_cases hi0 : i = 0
        · have := h0 hi0
          subst this
          have : v < 128 := by rw [← hv, show d + 1 = k by omega]; exact hk
          omega
        · have h2 := h1 (by omega)
          have h3 := gr_step n (d + 1)
          rw [hv, ← h2] at h3
          exact h3
      rw [lng_step (t' := (v : Int)) (by omega) hx (by omega), if_neg (by omega), if_neg (by omega)]
      have := ih (i + 1) (by omega) v (by omega) (fun _ => hv.symm)
      rw [Nat.add_assoc]
      exact this
  have := key k 0 (by omega) 0 (fun _ => rfl) (by omega)
  simpa using this
theorem by8_step (n j : Nat) : n / 256 ^ (j + 1) * 256 + n / 256 ^ j % 256 = n / 256 ^ j := by
  rw [Nat.pow_succ, ← Nat.div_div_eq_div_mul]; omega
theorem lenB_len (n c : Nat) : (lenB n c).length = if n < 128 then 1 else c + 1 := by
  unfold lenB
  split
  · rfl
  · rw [List.length_cons, tb_len]
/-- A length is read as it was laid. -/
theorem lenS_lenB {M : List Int} {i : Nat} (n l : Nat) (hA : At M i (lenB n l)) (hl : n / 256 ^ l = 0) (hl1 : ∀ j, j < l → 0 < n / 256 ^ j) (hl8 : l ≤ 7) (hn : n ≤ 16777216) (hM : i + (lenB n l).length + n ≤ M.length) :
    lenS M i = .inr ((n : Int), (i + (lenB n l).length)) := by
  rw [lenB_len] at hM ⊢
  by_cases h : n < 128
  · rw [if_pos h] at hM ⊢
    have hx := hA.2 0 (by rw [lenB_len, if_pos h]; omega)
    rw [show (lenB n l).getD 0 0 = (n : Int) by unfold lenB; rw [if_pos h]; rfl, Nat.add_zero] at hx
    unfold lenS
    rw [if_neg (by omega), hx, if_neg (by omega), if_pos (by omega), if_neg (by omega)]
  · rw [if_neg h] at hM ⊢
    have hB : lenB n l = (128 + (l : Int)) :: tb n l l := by unfold lenB; rw [if_neg h]
    rw [hB] at hA
    have hx := hA.2 0 (by simp)
    rw [Nat.add_zero] at hx
    have hx : M.getD i 0 = 128 + (l : Int) := by rw [hx]; rfl
    have hl0 : 0 < l := by
      by_cases h0 : l = 0
      · subst h0; simp at hl; omega
      · omega
    have hg : ∀ q, q < l → M.getD (i + 1 + q) 0 = by8 n (l - 1 - q) := by
      intro q hq
      have := hA.2 (q + 1) (by rw [List.length_cons, tb_len]; omega)
      rw [show i + (q + 1) = i + 1 + q by omega] at this
      rw [this]
      have h2 := tb_get n l l q hq
      simpa using h2
    have hf : ∀ q, q ≤ l → fold8 M (i + 1) q = ((n / 256 ^ (l - q) : Nat) : Int) := by
      intro q
      induction q with
      | zero => intro _; simp only [fold8]; rw [Nat.sub_zero, hl]; rfl
      | succ q ih =>
        intro hq
        rw [fold8_at (i + 1) q (hg q (by omega)), ih (by omega)]
        have h3 := by8_step n (l - 1 - q)
        rw [show l - 1 - q + 1 = l - q by omega] at h3
        have h4 : n / 256 ^ (l - 1 - q) ≤ n := Nat.div_le_self _ _
        rw [show l - (q + 1) = l - 1 - q by omega]
        unfold by8
        omega
    have hfl := hf l (Nat.le_refl _)
    rw [Nat.sub_self, Nat.pow_zero, Nat.div_one] at hfl
    have h1 := hg 0 hl0
    have hne : M.getD (i + 1) 0 ≠ 0 := by
      rw [Nat.add_zero] at h1
      rw [h1]
      unfold by8
      have h3 := by8_step n (l - 1 - 0)
      rw [show l - 1 - 0 + 1 = l by omega, hl] at h3
      have h4 := hl1 (l - 1 - 0) (by omega)
      omega
    unfold lenS
    have hk : (M.getD i 0 - 128).toNat = l := by rw [hx]; omega
    rw [hk, hx, if_neg (by omega), if_neg (by omega), if_neg (by omega), if_neg (by omega), hfl, if_neg (by omega), if_neg (by omega)]
    refine congrArg Sum.inr (Prod.ext ?_ ?_)
    · simp only []
    · simp only []; omega
/-- An element's bytes. -/
def encB (cl : Int) (co : Bool) (t k l : Nat) (d : List Int) : List Int := headB cl co t k ++ lenB d.length l ++ d
theorem headB_len (cl : Int) (co : Bool) (t k : Nat) : (headB cl co t k).length = if t < 31 then 1 else k + 2 := by
  unfold headB
  split
  · rfl
  · rw [List.length_cons, sev_len]
theorem tagS_head {M : List Int} {p : Nat} (cl : Int) (co : Bool) (t k : Nat) (hA : At M p (headB cl co t k)) (h : headOk cl t = true) (hk : t / 128 ^ k < 128) (hk1 : ∀ j, j < k → 128 ≤ t / 128 ^ j) :
    tagS M p = .inr ((t : Int), (p + (headB cl co t k).length)) ∧ M.getD p 0 / 64 = cl ∧ decide (M.getD p 0 / 32 % 2 = 1) = co := by
  have hh : 0 ≤ cl ∧ cl ≤ 3 ∧ (t : Int) ≤ 268435455 ∧ ¬ (cl = 0 ∧ (t : Int) = 0) := by unfold headOk at h; simp at h; omega
  have hco : (if co then (32 : Int) else 0) = 0 ∧ co = false ∨ (if co then (32 : Int) else 0) = 32 ∧ co = true := by cases co <;> simp
  rw [headB_len]
  by_cases ht : t < 31
  · have hx := hA.2 0 (by rw [headB_len, if_pos ht]; omega)
    rw [show (headB cl co t k).getD 0 0 = frst cl co + t by unfold headB; rw [if_pos ht]; rfl, Nat.add_zero] at hx
    unfold frst at hx
    obtain ⟨z, hz⟩ : ∃ z : Int, (if co then (32 : Int) else 0) = z := ⟨_, rfl⟩
    rw [hz] at hx hco
    rw [if_pos ht]
    refine ⟨?_, by omega, ?_⟩
    · unfold tagS
      rw [hx, show (cl * 64 + z + (t : Int)) % 32 = t by omega, if_neg (by omega), if_neg (by omega)]
    · rw [hx]
      rcases hco with ⟨h1, rfl⟩ | ⟨h1, rfl⟩
      · simp; omega
      · simp; omega
  · have hB : headB cl co t k = (frst cl co + 31) :: sev k t := by unfold headB; rw [if_neg ht]
    rw [hB] at hA
    have hx := hA.2 0 (by simp)
    rw [Nat.add_zero] at hx
    have hx : M.getD p 0 = frst cl co + 31 := by rw [hx]; rfl
    unfold frst at hx
    obtain ⟨z, hz⟩ : ∃ z : Int, (if co then (32 : Int) else 0) = z := ⟨_, rfl⟩
    rw [hz] at hx hco
    rw [if_neg ht]
    have hA' : At M (p + 1) (sev k t) := by
      have : At M p ([cl * 64 + z + 31] ++ sev k t) := by
        have := hA
        unfold frst at this
        rw [hz] at this
        exact this
      exact this.right
    refine ⟨?_, by omega, ?_⟩
    · unfold tagS
      rw [hx, if_pos (by omega), lng_sev k t hA' hk hk1 (by omega) (by omega)]
      refine congrArg Sum.inr (Prod.ext ?_ ?_)
      · simp only []
      · simp only []; omega
    · rw [hx]
      rcases hco with ⟨h1, rfl⟩ | ⟨h1, rfl⟩
      · simp; omega
      · simp; omega
/-- An element is read as it was laid. -/
theorem elem_enc {M : List Int} {p : Nat} (cl : Int) (co : Bool) (t k l : Nat) (d : List Int) (hA : At M p (encB cl co t k l d)) (h : headOk cl t = true) (hk : t / 128 ^ k < 128) (hk1 : ∀ j, j < k → 128 ≤ t / 128 ^ j)
    (hl : d.length / 256 ^ l = 0) (hl1 : ∀ j, j < l → 0 < d.length / 256 ^ j) (hl8 : l ≤ 7) (hn : d.length ≤ 16777216) :
    ∃ j E, elemS M p = .inr ((t : Int), j, E) ∧ E = p + (encB cl co t k l d).length ∧ elAt M p t j E = ⟨cl, t, co, d, encB cl co t k l d⟩ := by
  have hA1 : At M p (headB cl co t k) := hA.left.left
  have hA2 : At M (p + (headB cl co t k).length) (lenB d.length l) := by
    have : At M p (headB cl co t k ++ (lenB d.length l ++ d)) := by rw [← List.append_assoc]; exact hA
    exact this.right.left
  have hA3 : At M (p + (headB cl co t k ++ lenB d.length l).length) d := hA.right
  rw [List.length_append] at hA3
  obtain ⟨h1, h2, h3⟩ := tagS_head cl co t k hA1 h hk hk1
  have h4 := lenS_lenB d.length l hA2 hl hl1 hl8 hn (by have := hA3.1; omega)
  have hlen : (encB cl co t k l d).length = (headB cl co t k).length + (lenB d.length l).length + d.length := by unfold encB; rw [List.length_append, List.length_append]
  refine ⟨p + (headB cl co t k).length + (lenB d.length l).length, p + (encB cl co t k l d).length, ?_, rfl, ?_⟩
  · unfold elemS
    rw [h1]
    simp only []
    rw [h4]
    simp only [Int.toNat_natCast]
    refine congrArg Sum.inr (Prod.ext ?_ (Prod.ext ?_ ?_))
    · simp only []
    · simp only []
    · simp only []; omega
  · unfold elAt
    rw [h2, h3]
    congr 1
    · have := hA3.take
      rw [show p + (encB cl co t k l d).length - (p + (headB cl co t k).length + (lenB d.length l).length) = d.length by omega, Nat.add_assoc]
      exact this
    · have := hA.take
      rw [show p + (encB cl co t k l d).length - p = (encB cl co t k l d).length by omega]
      exact this
/-- An element that was laid by its own bytes. -/
def Laid (x : El) : Prop := ∃ t k l : Nat, x.tg = t ∧ x.r = encB x.cl x.co t k l x.d ∧ headOk x.cl t = true ∧ t / 128 ^ k < 128 ∧ (∀ j, j < k → 128 ≤ t / 128 ^ j) ∧ x.d.length / 256 ^ l = 0 ∧ (∀ j, j < l → 0 < x.d.length / 256 ^ j) ∧ l ≤ 7 ∧ x.d.length ≤ 16777216
def rawOf (L : List El) : List Int := L.flatMap (·.r)
theorem encB_pos (cl : Int) (co : Bool) (t k l : Nat) (d : List Int) : 0 < (encB cl co t k l d).length := by
  unfold encB; rw [List.length_append, List.length_append, headB_len]; split <;> omega
theorem spl_laid {M : List Int} (hM : U8s M) : ∀ (L2 L1 : List El), (∀ x ∈ L2, Laid x) → M = rawOf (L1 ++ L2) → (L1 ++ L2).length ≤ 65536 → spl M (rawOf L1).length L1 = .inr (L1 ++ L2)
  | [], L1, _, hE, _ => by rw [List.append_nil] at hE ⊢; exact spl_end (by rw [hE]; omega)
  | x :: L2, L1, hL, hE, hlen => by
    obtain ⟨t, k, l, h1, h2, h3, h4, h5, h6, h7, h8, h9⟩ := hL x (by simp)
    have hR : rawOf (L1 ++ x :: L2) = rawOf L1 ++ (x.r ++ rawOf L2) := by unfold rawOf; simp
    have hA0 : At M 0 (rawOf L1 ++ (x.r ++ rawOf L2)) := by rw [← hR, ← hE]; exact ⟨by omega, fun q _ => by rw [Nat.zero_add]⟩
    have hA : At M (rawOf L1).length x.r := by have := hA0.right.left; rw [Nat.zero_add] at this; exact this
    rw [h2] at hA
    obtain ⟨j, E, e1, e2, e3⟩ := elem_enc x.cl x.co t k l x.d hA h3 h4 h5 h6 h7 h8 h9
    have hpos := encB_pos x.cl x.co t k l x.d
    have hlt : (rawOf L1).length < M.length := by have := hA.1; omega
    rw [spl_ok hM hlt (by simp at hlen; omega) e1, e3, e2]
    have hx : (⟨x.cl, (t : Int), x.co, x.d, encB x.cl x.co t k l x.d⟩ : El) = x := by rw [← h1, ← h2]
    rw [hx]
    have := spl_laid hM L2 (L1 ++ [x]) (fun y hy => hL y (by simp [hy])) (by rw [hE]; simp) (by simpa using hlen)
    have hl2 : (rawOf (L1 ++ [x])).length = (rawOf L1).length + (encB x.cl x.co t k l x.d).length := by unfold rawOf; simp; rw [h2]
    rw [hl2] at this
    simpa using this
theorem split_laid {M : List Int} (hM : U8s M) (L : List El) (hL : ∀ x ∈ L, Laid x) (hE : M = rawOf L) (hlen : L.length ≤ 65536) (hn : M.length ≤ 16777216) : splitS M = .inr L := by
  unfold splitS
  rw [if_neg (by omega)]
  exact spl_laid hM L [] hL hE hlen
end Go.Proofs.YtillkhjihggcjaaGreatDoor
/-
  append onto a slice of the call's own, and where its answer lies.
-/
namespace Go.Proofs.YtillkhjihggcjaaGreatDoor
open Go.RowKit
theorem run_apL {P : Program} (w : World) (t tx ty e : TypeId) (i : TypeInfo) (k : IntKind) (ht : P.underlying t = some (.slice e)) (hi : P.info? e = some i) (hz : i.zero = some (.int k 0)) (hsize : i.size = 1) (hby : 0 < i.bytes)
    {B : Nat} {v : Value} {xs : List Int} (hr : Row k e B w v xs) {x : Value} {ys : List Int} (hs : Src P 1 tx x ys.length (ys.map (Value.int k)) w)
    (hb : (xs.length + ys.length) * i.bytes ≤ 140737488355328) (hB : B ≤ w.heap.size) :
    ∃ v' w', (Builtin.append_ #[t, tx] ty #[v, x]).run P w = .ok v' w' ∧ Row k e B w' v' (xs ++ ys) ∧ Grew k e w w' v ys ∧ (blkOf v' = blkOf v ∨ blkOf v' = some w.heap.size) := by
  have hle : xs.length + ys.length ≤ 140737488355328 := Nat.le_trans (Nat.le_mul_of_pos_right _ hby) hb
  have hs1 : Src P i.size tx x ys.length (ys.map (Value.int k)) w := by rw [hsize]; exact hs
  have grown : ∀ (base : Option Addr) (old : Nat), old < xs.length + ys.length → (Builtin.firstCells i.size xs.length (.slice base xs.length old)).run P w.drew = .ok (xs.map (Value.int k)).toArray w.drew →
      ∃ v' w', (Builtin.append_ #[t, tx] ty #[.slice base xs.length old, x]).run P w = .ok v' w' ∧ Row k e B w' v' (xs ++ ys) ∧ Grew k e w w' (.slice base xs.length old) ys ∧ (blkOf v' = blkOf (.slice base xs.length old) ∨ blkOf v' = some w.heap.size) := by
    intro base old ho hold
    have h1 := run_append_grow_src (P := P) w t tx ty e i (.int k 0) ht hi hz base xs.length old _ hold x ys.length _ hs1 ho (by omega) (growslice_fits (by omega) hb)
    refine ⟨_, _, h1, ?_, .inl ((Below.refl _ _).drew.alloc (Nat.le_refl _) _), .inr rfl⟩
    have hge := grownCap_ge w (xs.length + ys.length) old e
    have hcm : grownCap w (xs.length + ys.length) old e ≤ maxLen := grownCap_le_maxLen w _ old e (by unfold maxLen; omega)
    obtain ⟨C, hC⟩ : ∃ C, grownCap w (xs.length + ys.length) old e = xs.length + ys.length + C := ⟨_, (Nat.add_sub_of_le hge).symm⟩
    rw [hC] at hcm ⊢
    have hzc : Builtin.zeroCells (Value.cells (.int k 0)) C = (List.replicate C (.int k 0)).toArray := by
      apply Array.ext'
      simp only [Builtin.zeroCells, Value.cells]
      simp
      rw [List.eq_replicate_iff]
      exact ⟨by simp, fun y hy => by obtain ⟨j, _, rfl⟩ := List.mem_map.1 hy; simp [Nat.mod_one]⟩
    refine .inr ⟨w.heap.size, xs ++ ys ++ List.replicate C 0, ?_, hB, ?_, by simp, List.take_left, by simp; omega⟩
    · simp; omega
    · unfold Arr
      rw [show xs.length + ys.length + C - (xs.length + ys.length) = C by omega, hzc]
      have := heap_alloc_new w.drew (.cells ((xs.map (Value.int k) ++ ys.map (Value.int k)).toArray ++ (List.replicate C (Value.int k 0)).toArray) e)
      simp only [List.map_append, List.map_replicate]
      rw [show (w.drew.heap.size) = w.heap.size from rfl] at this
      rw [this]; simp
  rcases hr with ⟨rfl, rfl⟩ | ⟨b, S, rfl, hBb, hA, hl, htk, hm⟩
  · by_cases h0 : ys.length = 0
    · have hy : ys = [] := List.eq_nil_of_length_eq_zero h0
      subst hy
      refine ⟨.slice none 0 0, w, ?_, .inl ⟨rfl, rfl⟩, .inl (Below.refl _ _), .inl rfl⟩
      have h1 := hs1.cells
      have h2 := hs1.len
      simp only [List.length_nil, List.map_nil] at h1 h2
      rcases hs1.kind with ⟨e', hk⟩ | hk
      · simp [Builtin.append_, run_underlying ht, run_underlying hk, sizeOf, typeInfo, hi, h2, h1]
      · simp [Builtin.append_, run_underlying ht, run_underlying hk, sizeOf, typeInfo, hi, h2, h1]
    · exact grown none 0 (by simp; omega) (run_firstCells_none w.drew i.size 0 0 0)
  · by_cases hroom : xs.length + ys.length ≤ S.length
    · have hst := run_storeCells_at P b (xs.length * i.size) e (ys.map (Value.int k)) 0 _ w hA (by simp [hsize]; omega) hs1.one
      simp only [Nat.add_zero] at hst
      have hrun : (Builtin.append_ #[t, tx] ty #[.slice (some ⟨b, 0, none⟩) xs.length S.length, x]).run P w = .ok (.slice (some ⟨b, 0, none⟩) (xs.length + ys.length) S.length) (w.setRow b (((S.map (Value.int k)).toArray.toList.take (xs.length * i.size)) ++ ys.map (Value.int k) ++ ((S.map (Value.int k)).toArray.toList.drop (xs.length * i.size + (ys.map (Value.int k)).length))).toArray) := by
        rcases hs1.kind with ⟨e', hk⟩ | hk <;> simp [Builtin.append_, run_underlying ht, run_underlying hk, sizeOf, typeInfo, hi, hs1.len, hroom, hs1.cells, Addr.add_lit, hst]
      have hA' : Arr k e (w.setRow b (((S.map (Value.int k)).toArray.toList.take (xs.length * i.size)) ++ ys.map (Value.int k) ++ ((S.map (Value.int k)).toArray.toList.drop (xs.length * i.size + (ys.map (Value.int k)).length))).toArray) b (S.take xs.length ++ ys ++ S.drop (xs.length + ys.length)) := by
        unfold Arr
        rw [setRow_heap w b _ _ e _ hA]
        simp [hsize, List.map_take, List.map_drop]
      have hlen : (S.take xs.length ++ ys ++ S.drop (xs.length + ys.length)).length = S.length := by simp; omega
      refine ⟨_, _, hrun, .inr ⟨b, _, ?_, hBb, hA', ?_, ?_, ?_⟩, .inr ⟨b, xs.length, S, rfl, hA, ⟨rfl, rfl, rfl, by simp [World.setRow], fun j _ hj => setRow_other w b j _ (fun e => hj (by simp [e]))⟩, hroom, hA'⟩, .inl rfl⟩
      · rw [hlen]; simp
      · rw [hlen]; simp; omega
      · rw [htk]; exact List.take_left
      · rw [hlen]; exact hm
    · refine grown (some ⟨b, 0, none⟩) S.length (by omega) (run_firstCells_some w.drew i.size xs.length ⟨b, 0, none⟩ xs.length S.length _ (by simp [hsize]) (fun j u hj => ?_))
      have hj' : j < xs.length := by have := (List.getElem?_eq_some_iff.1 hj).1; simpa using this
      have hadd : (⟨b, 0, none⟩ : Addr).add j = ⟨b, j, none⟩ := by simp [Addr.add]; try omega
      have := hA.cell j (by omega)
      rw [hadd]
      have e1 : (w.drew).cell? ⟨b, j, none⟩ = w.cell? ⟨b, j, none⟩ := rfl
      rw [e1, this, ← hj]
      have e2 : S.getD j 0 = xs.getD j 0 := by
        have : (S.take xs.length).getD j 0 = S.getD j 0 := by simp [List.getD, hj']
        rw [← this, htk]
      rw [e2]; simp [hj']

theorem wpList_apL {P : Program} {w : World} {ops : Array Oper} {rest : List Oper} {o : Oper} {a : Act} {Q : Exit → Act → World → Prop} (hgd : o.guard = none) (s x : Operand) (t tx : TypeId)
    (ho : o.op = .call { callee := .builtin .append, args := #[s, x], argTypes := #[t, tx] }) (k : IntKind) (e : TypeId) (bytes : Nat) (ht : P.underlying t = some (.slice e))
    (hi : (P.info? e).map (fun i => (i.zero, i.size, i.bytes)) = some (some (.int k 0), 1, bytes)) (hby : 0 < bytes)
    (B : Nat) (v : Value) (xs : List Int) (hs : a.eval s = v) (hr : Row k e B w v xs) (u : Value) (ys : List Int) (hx : a.eval x = u) (hy : Src P 1 tx u ys.length (ys.map (Value.int k)) w)
    (hb : (xs.length + ys.length) * bytes ≤ 140737488355328) (hB : B ≤ w.heap.size)
    (h : ∀ v' w', Row k e B w' v' (xs ++ ys) → Grew k e w w' v ys → (blkOf v' = blkOf v ∨ blkOf v' = some w.heap.size) → wpList P ops Q rest (a.put o.dst v') w') : wpList P ops Q (o :: rest) a w := by
  obtain ⟨i0, hi0, hz0, hz1, hz2⟩ := info_parts hi
  refine wpList_plain hgd fun K hK => ?_
  obtain ⟨v', w', hrun, h2, h3, h4⟩ := run_apL (P := P) w t tx o.type e i0 k ht hi0 hz0 hz1 (by omega) hr hy (by rw [hz2]; exact hb) hB
  unfold Oper.wp execOp
  simp only [ho, resolve, invoke, builtin, Sem.run_bind, Sem.run_pure, Result.andThen_ok, List.map_toArray, List.map_cons, List.map_nil, hs, hx, hrun]
  exact hK _ _ (h v' w' h2 h3 h4)
end Go.Proofs.YtillkhjihggcjaaGreatDoor
/-
  Der: how many groups of seven bits, how many bytes.
-/
namespace Go.Proofs.YtillkhjihggcjaaGreatDoor
open Go.RowKit
theorem ex_sev (t : Nat) (h : t ≤ 268435455) : ∃ k, k ≤ 8 ∧ t / 128 ^ k < 128 ∧ ∀ j, j < k → 128 ≤ t / 128 ^ j := by
  by_cases h0 : t < 128
  · exact ⟨0, by omega, by simpa using h0, fun j hj => by omega⟩
  by_cases h1 : t < 16384
  · exact ⟨1, by omega, by simp; omega, fun j hj => by
      obtain rfl : j = 0 := by omega
      simp
      omega⟩
  by_cases h2 : t < 2097152
  · exact ⟨2, by omega, by simp; omega, fun j hj => by
      have : j = 0 ∨ j = 1 := by omega
      rcases this with rfl | rfl <;> simp <;> omega⟩
  · exact ⟨3, by omega, by simp; omega, fun j hj => by
      have : j = 0 ∨ j = 1 ∨ j = 2 := by omega
      rcases this with rfl | rfl | rfl <;> simp <;> omega⟩
theorem ex_len (t : Nat) (h : t ≤ 16777216) : ∃ l, l ≤ 7 ∧ t / 256 ^ l = 0 ∧ ∀ j, j < l → 0 < t / 256 ^ j := by
  by_cases h0 : t = 0
  · exact ⟨0, by omega, by simpa using h0, fun j hj => by omega⟩
  by_cases h1 : t < 256
  · exact ⟨1, by omega, by simp; omega, fun j hj => by
      obtain rfl : j = 0 := by omega
      simp
      omega⟩
  by_cases h2 : t < 65536
  · exact ⟨2, by omega, by simp; omega, fun j hj => by
      have : j = 0 ∨ j = 1 := by omega
      rcases this with rfl | rfl <;> simp <;> omega⟩
  by_cases h3 : t < 16777216
  · exact ⟨3, by omega, by simp; omega, fun j hj => by
      have : j = 0 ∨ j = 1 ∨ j = 2 := by omega
      rcases this with rfl | rfl | rfl <;> simp <;> omega⟩
  · exact ⟨4, by omega, by simp; omega, fun j hj => by
      have : j = 0 ∨ j = 1 ∨ j = 2 ∨ j = 3 := by omega
      rcases this with rfl | rfl | rfl | rfl <;> simp <;> omega⟩
end Go.Proofs.YtillkhjihggcjaaGreatDoor
