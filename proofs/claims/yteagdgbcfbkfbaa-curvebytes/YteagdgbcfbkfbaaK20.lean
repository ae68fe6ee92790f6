/-
  The reference's curves: far, fieldOf. (wip/mku23.py)
-/
import Derived.Laws.StructEq
import Derived.Test.YteagdgbcfbkfbaaK19
namespace Go.Proofs.Yteagdgbcfbkfbaa
open Go.RowKit
set_option maxRecDepth 20000
set_option maxHeartbeats 1000000 in
theorem RFar {w : World} (vx vy : Value) (X Y : List Int) (hX : Sl .u32 w vx X) (hY : Sl .u32 w vy Y) (uX : U32s X) (uY : U32s Y) (lX : X.length ≤ 1000000) (lY : Y.length ≤ 1000000) :
    Calls Try.prog 46 #[.agg #[vx, vy]] w fun e w' => e = .returned (.bool (farB X Y)) ∧ Below w.heap.size w w' := by
  have HX : Hid (∀ W, Below w.heap.size w W → Calls Try.prog 82 #[vx] W fun e w' => e = .returned (.int .i64 (bitLen (val X).toNat)) ∧ Below W.heap.size W w') := fun W hW => (Nt.RBits_any vx X (below_sl hW hX) uX (by omega) (val X) rfl)
  have HY : Hid (∀ W, Below w.heap.size w W → Calls Try.prog 82 #[vy] W fun e w' => e = .returned (.int .i64 (bitLen (val Y).toNat)) ∧ Below W.heap.size W w') := fun W hW => (Nt.RBits_any vy Y (below_sl hW hY) uY (by omega) (val Y) rfl)
  have HF : Hid (farB X Y = (((bitLen (val X).toNat : Int) == 0) && ((bitLen (val Y).toNat : Int) == 0))) := by
    show _ = _
    unfold farB
    have h1 := bits0 uX
    have h2 := bits0 uY
    by_cases a : val X = 0 <;> by_cases b : val Y = 0
    · have e1 := h1.2 a; have e2 := h2.2 b; rw [e1, e2]; simp [a, b]
    · simp [a, b]; intro _; exact fun h => b (h2.1 (by omega))
    · simp [a, b]; intro h; exact absurd (h1.1 (by omega)) a
    · simp [a, b]; intro h; exact absurd (h1.1 (by omega)) a
  obtain ⟨x, hx⟩ : ∃ x, bitLen (val X).toNat = x := ⟨_, rfl⟩
  obtain ⟨y, hy⟩ : ∃ y, bitLen (val Y).toNat = y := ⟨_, rfl⟩
  rw [hx] at HX HF
  rw [hy] at HY HF
  clear hX hY uX uY lX lY hx hy
  go_enter Try.func46, Try.ntmps46
  go_upto_region 1 with (refine wpList_boxR rfl 24 (.tmp 0) rfl #[vx, vy] rfl ?_)
  refine wp_gen (fun W => Blk 24 W w.heap.size [vx, vy] ∧ Below w.heap.size w W) ⟨Blk.new _ w _, al1 _⟩ ?_
  rintro W2 ⟨hB, hBw⟩
  have hc0 : W2.cell? ⟨w.heap.size, 0, none⟩ = some vx := hB.cell 0
  have H2 : Hid (Below w.heap.size w W2 ∧ ∀ W3, Below W2.heap.size W2 W3 → W3.cell? ⟨w.heap.size, 1, none⟩ = some vy ∧ Below w.heap.size w W3) := ⟨hBw, fun W3 h3 => ⟨(below_blk h3 hB.lt hB).cell 1, below_via hBw h3 (Nat.le_refl _)⟩⟩
  clear hB hBw
  by_cases h0 : x = 0
  · have d0 : ((x : Int) == 0) = true := by simp [h0]
    have HF2 : Hid (farB X Y = ((y : Int) == 0)) := by show _ = _; rw [HF.out, d0]; rfl
    clear h0 HF
    go_wp2_with fail
    refine (HX.out _ H2.out.1).mono ?_
    rintro e w3 ⟨rfl, hb3⟩
    have hc1 := (H2.out.2 _ hb3).1
    have H3 : Hid (Below w.heap.size w w3) := (H2.out.2 _ hb3).2
    clear hb3 hc0
    go_wp2_with (go_at_call 82; refine (HY.out _ H3.out).mono ?_; rintro e w4 ⟨rfl, hb4⟩; have H4 : Hid (Below w.heap.size w w4) := below_via H3.out hb4 (Nat.le_refl _); clear hb4)
    go_ret
    exact ⟨by rw [HF2.out]; rfl, H4.out⟩
  · have d0 : ((x : Int) == 0) = false := by simp; exact h0
    have HF2 : Hid (farB X Y = false) := by show _ = _; rw [HF.out, d0]; rfl
    clear h0 HF
    go_wp2_with (go_at_call 82; refine (HX.out _ H2.out.1).mono ?_; rintro e w3 ⟨rfl, hb3⟩; have H3 : Hid (Below w.heap.size w w3) := (H2.out.2 _ hb3).2; clear hb3)
    go_ret
    exact ⟨by rw [HF2.out]; rfl, H3.out⟩
def f14 : List Value := .int .i64 0 :: z13
theorem newF (w : World) : Blk 78 (w.alloc (.cells f14.toArray 78)) w.heap.size f14 := Blk.new _ w f14
theorem Try.sizeFd : (Try.prog.info? 78).map (·.size) = some 14 := by kernel_rfl
theorem fdC_one (l : Nat) (P : List Int) : (fdC l P).toArray.all (·.oneCell') = true := by
  have h := ints_one .u64 P
  rw [List.all_toArray] at h ⊢
  unfold fdC
  rw [List.all_cons, h]
  rfl
theorem list13 {P : List Int} (h : P.length = 13) : ∃ p0 p1 p2 p3 p4 p5 p6 p7 p8 p9 p10 p11 p12, P = [p0, p1, p2, p3, p4, p5, p6, p7, p8, p9, p10, p11, p12] := by
  match P, h with
  | [p0, p1, p2, p3, p4, p5, p6, p7, p8, p9, p10, p11, p12], _ => exact ⟨p0, p1, p2, p3, p4, p5, p6, p7, p8, p9, p10, p11, p12, rfl⟩
set_option maxHeartbeats 2000000 in
theorem RFieldOf {w : World} (c : Int) : Calls Try.prog 40 #[.int .i64 c] w fun e w' => ∃ P, e = .returned (.agg (fdC (lim (crvN (·.p) (crv c))).length P).toArray) ∧ Dg P ∧ val P = (crvN (·.p) (crv c) : Nat) ∧ Below w.heap.size w w' := by
  go_enter Try.func40, Try.ntmps40
  go_wp2_with fail
  refine (RPrime_any c).mono ?_
  rintro e w3 ⟨r, rfl, hr, hb⟩
  obtain ⟨a, k, rfl⟩ := hr.form
  obtain ⟨l, hl⟩ : ∃ l, (lim (crvN (·.p) (crv c))).length = l := ⟨_, rfl⟩
  have hl12 : l ≤ 12 := hl ▸ (crv_sz c).2
  have H3 : Hid (Below w.heap.size w w3 ∧ Blk 78 w3 w.heap.size f14) := ⟨below_via (al1 _) hb (Nat.le_refl _), below_blk hb (newF w).lt (newF w)⟩
  have HL : Hid ((lim (crvN (·.p) (crv c))).length = l) := hl
  rw [hl]
  clear hr hb hl
  go_wp2_with fail
  refine (RPrime_any c).mono ?_
  rintro e w4 ⟨r4, rfl, hr4, hb4⟩
  have H4 : Hid (Below w.heap.size w w4 ∧ Blk 78 w4 w.heap.size f14 ∧ Nb w4 r4 (crvN (·.p) (crv c))) := ⟨below_via H3.out.1 hb4 (Nat.le_refl _), below_blk hb4 H3.out.2.lt H3.out.2, hr4⟩
  clear hr4 hb4 H3
  go_wp2_with fail
  refine (rof_any r4 _ H4.out.2.2 (lim_u32 _) (by have := (crv_sz c).2; omega)).mono ?_
  rintro e w5 ⟨P, rfl, dP, vP, hb5⟩
  have HP : Hid (Dg P ∧ val P = (crvN (·.p) (crv c) : Nat)) := ⟨dP, by rw [vP, List.take_of_length_le (crv_sz c).2, val_lim]⟩
  have H5 : Hid (Below w.heap.size w w5 ∧ Blk 78 w5 w.heap.size f14) := ⟨below_via H4.out.1 hb5 (Nat.le_refl _), below_blk hb5 H4.out.2.1.lt H4.out.2.1⟩
  obtain ⟨p0, p1, p2, p3, p4, p5, p6, p7, p8, p9, p10, p11, p12, rfl⟩ := list13 dP.2
  clear dP vP hb5 H4
  have hth : w5.there w.heap.size 0 (fdC l [p0, p1, p2, p3, p4, p5, p6, p7, p8, p9, p10, p11, p12]).toArray.size := H5.out.2.there 0 _ (by simp [fdC, f14, z13])
  have HTh : Hid (w5.there w.heap.size 0 (fdC l [p0, p1, p2, p3, p4, p5, p6, p7, p8, p9, p10, p11, p12]).toArray.size) := hth
  clear hth
  unfold dgA
  simp only [List.map_cons, List.map_nil]
  go_wp2_with (refine wpList_store_mid rfl _ _ _ rfl w.heap.size 0 (fdC l [p0, p1, p2, p3, p4, p5, p6, p7, p8, p9, p10, p11, p12]).toArray rfl rfl HTh.out Try.sizeFd (fdC_one _ _) ?_)
  exact bodyPost_ret (v := .agg (fdC l [p0, p1, p2, p3, p4, p5, p6, p7, p8, p9, p10, p11, p12]).toArray) (results_blk (b := w.heap.size) (cs := fdC l [p0, p1, p2, p3, p4, p5, p6, p7, p8, p9, p10, p11, p12]) rfl rfl (H5.out.2.fill _ rfl) Try.underlying78 rfl Try.sizeFd) rfl ⟨_, by rw [HL.out], HP.out.1, HP.out.2, (Upd.setCells _ 0 w5).below H5.out.1 H5.out.1.size (Nat.le_refl _)⟩
end Go.Proofs.Yteagdgbcfbkfbaa
/-
  A region that draws its order, by an invariant: each operation is walked once, whatever came up ahead of it.
-/
namespace Go.Proofs.Yteagdgbcfbkfbaa
section
variable {P : Program} {ops : Array Oper} {md : Region.Mode} {Q : Exit → Act → World → Prop}
def Up (listed : Array Bool) (k : Nat) : Prop := listed.getD k false = true
def depL (md : Region.Mode) (ops : Array Oper) (i : Nat) : List Nat := ((ops[i]?).map fun o => (o.after.toList.filter (Region.binds md)).map (·.on)).getD []
theorem ready_deps {listed : Array Bool} {i : Nat} (h : i ∈ Region.ready md ops listed) : ∀ k ∈ depL md ops i, Up listed k := by
  obtain ⟨_, o, ho, hall⟩ := mem_ready.1 h
  intro k hk
  unfold depL at hk
  rw [ho] at hk
  simp only [Option.map_some, Option.getD_some, List.mem_map, List.mem_filter] at hk
  obtain ⟨e, ⟨he, hb⟩, rfl⟩ := hk
  exact hall e (by simpa using he) hb
theorem ready_not {listed : Array Bool} {i : Nat} (h : i ∈ Region.ready md ops listed) : ¬ Up listed i := fun hu => by
  have h0 := (mem_ready.1 h).1
  unfold Up at hu
  by_cases hlt : i < listed.size
  · simp [hlt] at h0 hu; rw [h0] at hu; exact Bool.noConfusion hu
  · simp [Array.getElem?_eq_none (Nat.le_of_not_lt hlt)] at hu
theorem ready_lt {listed : Array Bool} {i : Nat} (h : i ∈ Region.ready md ops listed) : i < ops.size := by
  obtain ⟨_, o, ho, _⟩ := mem_ready.1 h
  exact (Array.getElem?_eq_some_iff.1 ho).1
theorem up_set {listed : Array Bool} {i k : Nat} (h : Up (listed.setIfInBounds i true) k) (hne : k ≠ i) : Up listed k := by
  unfold Up at *
  rwa [getD_set_ne false (Ne.symm hne)] at h
/-- Where nothing may come up, all has come up. -/
theorem all_up (hB : backB md ops ops.size = true) {listed : Array Bool} (hsz : listed.size = ops.size) (hr : Region.ready md ops listed = []) : ∀ k, k < ops.size → Up listed k := by
  intro k
  induction k using Nat.strongRecOn with
  | _ k ih =>
    intro hk
    by_cases hu : Up listed k
    · exact hu
    · exfalso
      have ho : ops[k]? = some ops[k] := Array.getElem?_eq_getElem hk
      have hm : k ∈ Region.ready md ops listed := by
        refine mem_ready.2 ⟨?_, ops[k], ho, fun e he hb => ?_⟩
        · unfold Up at hu
          simp [show k < listed.size by omega] at hu ⊢
          exact hu
        · have h1 := List.all_eq_true.1 hB k (by simpa using hk)
          simp only [ho, Option.map_some, Option.getD_some] at h1
          have h2 := Array.all_eq_true_iff_forall_mem.1 h1 e he
          simp only [hb, Bool.not_true, Bool.false_or, decide_eq_true_eq] at h2
          exact ih e.on h2 (by omega)
      rw [hr] at hm
      cases hm
theorem count_set {l : List Bool} {i : Nat} (h : l[i]? = some false) : (l.set i true).count false + 1 = l.count false := by
  induction l generalizing i with
  | nil => simp at h
  | cons b l ih =>
    cases i with
    | zero => simp at h; subst h; simp
    | succ i =>
      simp only [List.getElem?_cons_succ] at h
      have := ih h
      simp only [List.set_cons_succ, List.count_cons]
      omega
theorem wpAny_inv (I : Array Bool → Act → World → Prop) (hB : backB md ops ops.size = true)
    (step : ∀ (i : Nat) (listed : Array Bool) (a : Act) (w : World), i ∈ Region.ready md ops listed → I listed a w → wpOp P ops Q i (fun a' w' => I (listed.setIfInBounds i true) a' w') a w)
    (done : ∀ (listed : Array Bool) (a : Act) (w : World), (∀ k, k < ops.size → Up listed k) → I listed a w → Q .normal a w) :
    ∀ (fuel : Nat) (listed : Array Bool) (a : Act) (w : World), listed.size = ops.size → listed.toList.count false ≤ fuel → I listed a w → wpAny P md ops Q fuel listed a w := by
  intro fuel
  induction fuel with
  | zero =>
    intro listed a w hsz hc hI
    have hr : Region.ready md ops listed = [] := by
      refine List.eq_nil_iff_forall_not_mem.2 fun i hi => ?_
      have h0 := (mem_ready.1 hi).1
      have hlt : i < listed.size := by rw [hsz]; exact ready_lt hi
      simp [hlt] at h0
      have : false ∈ listed.toList := by rw [← h0]; exact Array.getElem_mem_toList hlt
      have := List.count_pos_iff.2 this
      omega
    exact ⟨hr, done listed a w (all_up hB hsz hr) hI⟩
  | succ fuel ih =>
    intro listed a w hsz hc hI
    refine ⟨fun hr => done listed a w (all_up hB hsz hr) hI, fun i hi => ?_⟩
    refine wpOp_mono (fun a' w' h => ih _ a' w' (by simp [hsz]) ?_ h) (step i listed a w hi hI)
    have h0 := (mem_ready.1 hi).1
    have hlt : i < listed.size := by rw [hsz]; exact ready_lt hi
    simp [hlt] at h0
    have := count_set (l := listed.toList) (i := i) (by simp [hlt, h0])
    simp only [Array.toList_setIfInBounds]
    omega
theorem wp_region_inv (I : Array Bool → Act → World → Prop) {id : Nat} {a : Act} {w : World} (hm : P.follows .mixedOrders = true) (hB : backB .any ops ops.size = true)
    (start : I (Array.replicate ops.size false) a w.drew)
    (done : ∀ (listed : Array Bool) (a : Act) (w : World), (∀ k, k < ops.size → Up listed k) → I listed a w → Q .normal a w)
    (step : ∀ (i : Nat) (listed : Array Bool) (a : Act) (w : World), i < ops.size → ¬ Up listed i → (∀ k ∈ depL .any ops i, Up listed k) → I listed a w → wpOp P ops Q i (fun a' w' => I (listed.setIfInBounds i true) a' w') a w) : (Code.region id ops true).wp P Q a w :=
  wp_region_any hm (wpAny_inv I hB (fun i listed a w hr hI => step i listed a w (ready_lt hr) (ready_not hr) (ready_deps hr) hI) done _ _ _ _ (by simp) (by simp) start)
theorem not_up_new {n k : Nat} : ¬ Up (Array.replicate n false) k := fun h => by
  unfold Up at h
  by_cases hk : k < n <;> simp [hk] at h
end
end Go.Proofs.Yteagdgbcfbkfbaa
/-
  Curve: two rows of digits are the same where their numbers are.
-/
namespace Go.Proofs.Yteagdgbcfbkfbaa
open Go.RowKit
theorem val_inj : ∀ {A B : List Int}, U32s A → U32s B → A.length = B.length → val A = val B → A = B
  | [], [], _, _, _, _ => rfl
  | [], _ :: _, _, _, h, _ => by simp at h
  | _ :: _, [], _, _, h, _ => by simp at h
  | a :: A, b :: B, uA, uB, hl, hv => by
    simp only [val] at hv
    have ha := uA a (by simp)
    have hb := uB b (by simp)
    unfold U32 at ha hb
    have h1 : a = b := by omega
    have h2 : val A = val B := by omega
    rw [h1, val_inj (fun x hx => uA x (by simp [hx])) (fun x hx => uB x (by simp [hx])) (by simpa using hl) h2]
theorem eql_dg (W : World) (A B : List Int) (hA : Dg A) (hB : Dg B) : Sem.run Try.prog (binOp .eql 76 (dgA A) (dgA B)) W = .ok (.bool (decide (val A = val B))) W := by
  have h1 : decide (val A = val B) = decide (A = B) := by
    by_cases h : A = B
    · simp [h]
    · simp [h]; exact fun hv => h (val_inj hA.1 hB.1 (by rw [hA.2, hB.2]) hv)
  rw [h1]
  obtain ⟨p0, p1, p2, p3, p4, p5, p6, p7, p8, p9, p10, p11, p12, rfl⟩ := list13 hA.2
  obtain ⟨q0, q1, q2, q3, q4, q5, q6, q7, q8, q9, q10, q11, q12, rfl⟩ := list13 hB.2
  have u3 := Try.underlying59
  have a3 := Try.isAgg59
  have z3 := Try.sizeOf59
  unfold dgA
  simp only [List.map_cons, List.map_nil]
  rw [run_eql_struct, show (10000 : Nat) = 9999 + 1 from rfl, Op.equalIn]
  simp only [Sem.run_bind, run_underlying Try.underlying76, Result.andThen_ok]
  simp only [Std.Legacy.Range.forIn_eq_forIn_range', Std.Legacy.Range.size, Nat.sub_zero, Nat.add_sub_cancel, Nat.div_one, List.range'_succ, List.range'_zero, List.forIn_cons, List.forIn_nil]
  go_simp
  clear h1 hA hB u3 a3 z3
  refine Decidable.byCases (fun h0 : p0 = q0 => ?_) (fun h0 : ¬ p0 = q0 => by rw [if_neg h0, decide_eq_false h0, Bool.false_and])
  rw [if_pos h0, decide_eq_true h0, Bool.true_and]
  refine Decidable.byCases (fun h1 : p1 = q1 => ?_) (fun h1 : ¬ p1 = q1 => by rw [if_neg h1, decide_eq_false h1, Bool.false_and])
  rw [if_pos h1, decide_eq_true h1, Bool.true_and]
  refine Decidable.byCases (fun h2 : p2 = q2 => ?_) (fun h2 : ¬ p2 = q2 => by rw [if_neg h2, decide_eq_false h2, Bool.false_and])
  rw [if_pos h2, decide_eq_true h2, Bool.true_and]
  refine Decidable.byCases (fun h3 : p3 = q3 => ?_) (fun h3 : ¬ p3 = q3 => by rw [if_neg h3, decide_eq_false h3, Bool.false_and])
  rw [if_pos h3, decide_eq_true h3, Bool.true_and]
  refine Decidable.byCases (fun h4 : p4 = q4 => ?_) (fun h4 : ¬ p4 = q4 => by rw [if_neg h4, decide_eq_false h4, Bool.false_and])
  rw [if_pos h4, decide_eq_true h4, Bool.true_and]
  refine Decidable.byCases (fun h5 : p5 = q5 => ?_) (fun h5 : ¬ p5 = q5 => by rw [if_neg h5, decide_eq_false h5, Bool.false_and])
  rw [if_pos h5, decide_eq_true h5, Bool.true_and]
  refine Decidable.byCases (fun h6 : p6 = q6 => ?_) (fun h6 : ¬ p6 = q6 => by rw [if_neg h6, decide_eq_false h6, Bool.false_and])
  rw [if_pos h6, decide_eq_true h6, Bool.true_and]
  refine Decidable.byCases (fun h7 : p7 = q7 => ?_) (fun h7 : ¬ p7 = q7 => by rw [if_neg h7, decide_eq_false h7, Bool.false_and])
  rw [if_pos h7, decide_eq_true h7, Bool.true_and]
  refine Decidable.byCases (fun h8 : p8 = q8 => ?_) (fun h8 : ¬ p8 = q8 => by rw [if_neg h8, decide_eq_false h8, Bool.false_and])
  rw [if_pos h8, decide_eq_true h8, Bool.true_and]
  refine Decidable.byCases (fun h9 : p9 = q9 => ?_) (fun h9 : ¬ p9 = q9 => by rw [if_neg h9, decide_eq_false h9, Bool.false_and])
  rw [if_pos h9, decide_eq_true h9, Bool.true_and]
  refine Decidable.byCases (fun h10 : p10 = q10 => ?_) (fun h10 : ¬ p10 = q10 => by rw [if_neg h10, decide_eq_false h10, Bool.false_and])
  rw [if_pos h10, decide_eq_true h10, Bool.true_and]
  refine Decidable.byCases (fun h11 : p11 = q11 => ?_) (fun h11 : ¬ p11 = q11 => by rw [if_neg h11, decide_eq_false h11, Bool.false_and])
  rw [if_pos h11, decide_eq_true h11, Bool.true_and]
  exact Decidable.byCases (fun h : p12 = q12 => by rw [if_pos h, decide_eq_true h]) (fun h : ¬ p12 = q12 => by rw [if_neg h, decide_eq_false h])
theorem eqg_dg (W : World) (A B : List Int) (x y : Operand) : Sem.run Try.prog (eqGuard BinOp.eql 76 x y (dgA A) (dgA B)) W = .ok () W := by kernel_rfl
end Go.Proofs.Yteagdgbcfbkfbaa
