/-
  Curve: two rows of digits are the same where their numbers are.
-/
import Derived.Laws.StructEq
import Derived.Test.YtillkhjihggcjaaGreatDoorK30
namespace Go.Proofs.YtillkhjihggcjaaGreatDoor
open Go.RowKit
theorem val_inj : ∀ {A B : List Int}, U32s A → U32s B → A.length = B.length → val A = val B → A = B
  | [], [], _, _, _, _ => rfl
  | [], _ :: _, _, _, h, _ => by simp at h
  | _ :: _, [], _, _, h, _ => by simp at h
  | a :: A, b :: B, uA, uB, hl, hv => by
    simp only [val] at hv
    have ha := uA a (by simp)
    have hb := uB b (by simp)
    unfold U32 at ha hb
    have h1 : a = b := by omega
    have h2 : val A = val B := by omega
    rw [h1, val_inj (fun x hx => uA x (by simp [hx])) (fun x hx => uB x (by simp [hx])) (by simpa using hl) h2]
theorem eql_dg (W : World) (A B : List Int) (hA : Dg A) (hB : Dg B) : Sem.run Tryz.prog (binOp .eql 154 (dgA A) (dgA B)) W = .ok (.bool (decide (val A = val B))) W := by
  have h1 : decide (val A = val B) = decide (A = B) := by
    by_cases h : A = B
    · simp [h]
    · simp [h]; exact fun hv => h (val_inj hA.1 hB.1 (by rw [hA.2, hB.2]) hv)
  rw [h1]
  obtain ⟨p0, p1, p2, p3, p4, p5, p6, p7, p8, p9, p10, p11, p12, rfl⟩ := list13 hA.2
  obtain ⟨q0, q1, q2, q3, q4, q5, q6, q7, q8, q9, q10, q11, q12, rfl⟩ := list13 hB.2
  have u3 := Tryz.underlying136
  have a3 := Tryz.isAgg136
  have z3 := Tryz.sizeOf136
  unfold dgA
  simp only [List.map_cons, List.map_nil]
  rw [run_eql_struct, show (10000 : Nat) = 9999 + 1 from rfl, Op.equalIn]
  simp only [Sem.run_bind, run_underlying Tryz.underlying154, Result.andThen_ok]
  simp only [Std.Legacy.Range.forIn_eq_forIn_range', Std.Legacy.Range.size, Nat.sub_zero, Nat.add_sub_cancel, Nat.div_one, List.range'_succ, List.range'_zero, List.forIn_cons, List.forIn_nil]
  go_simp
  clear h1 hA hB u3 a3 z3
  refine Decidable.byCases (fun h0 : p0 = q0 => ?_) (fun h0 : ¬ p0 = q0 => by rw [if_neg h0, decide_eq_false h0, Bool.false_and])
  rw [if_pos h0, decide_eq_true h0, Bool.true_and]
  refine Decidable.byCases (fun h1 : p1 = q1 => ?_) (fun h1 : ¬ p1 = q1 => by rw [if_neg h1, decide_eq_false h1, Bool.false_and])
  rw [if_pos h1, decide_eq_true h1, Bool.true_and]
  refine Decidable.byCases (fun h2 : p2 = q2 => ?_) (fun h2 : ¬ p2 = q2 => by rw [if_neg h2, decide_eq_false h2, Bool.false_and])
  rw [if_pos h2, decide_eq_true h2, Bool.true_and]
  refine Decidable.byCases (fun h3 : p3 = q3 => ?_) (fun h3 : ¬ p3 = q3 => by rw [if_neg h3, decide_eq_false h3, Bool.false_and])
  rw [if_pos h3, decide_eq_true h3, Bool.true_and]
  refine Decidable.byCases (fun h4 : p4 = q4 => ?_) (fun h4 : ¬ p4 = q4 => by rw [if_neg h4, decide_eq_false h4, Bool.false_and])
  rw [if_pos h4, decide_eq_true h4, Bool.true_and]
  refine Decidable.byCases (fun h5 : p5 = q5 => ?_) (fun h5 : ¬ p5 = q5 => by rw [if_neg h5, decide_eq_false h5, Bool.false_and])
  rw [if_pos h5, decide_eq_true h5, Bool.true_and]
  refine Decidable.byCases (fun h6 : p6 = q6 => ?_) (fun h6 : ¬ p6 = q6 => by rw [if_neg h6, decide_eq_false h6, Bool.false_and])
  rw [if_pos h6, decide_eq_true h6, Bool.true_and]
  refine Decidable.byCases (fun h7 : p7 = q7 => ?_) (fun h7 : ¬ p7 = q7 => by rw [if_neg h7, decide_eq_false h7, Bool.false_and])
  rw [if_pos h7, decide_eq_true h7, Bool.true_and]
  refine Decidable.byCases (fun h8 : p8 = q8 => ?_) (fun h8 : ¬ p8 = q8 => by rw [if_neg h8, decide_eq_false h8, Bool.false_and])
  rw [if_pos h8, decide_eq_true h8, Bool.true_and]
  refine Decidable.byCases (fun h9 : p9 = q9 => ?_) (fun h9 : ¬ p9 = q9 => by rw [if_neg h9, decide_eq_false h9, Bool.false_and])
  rw [if_pos h9, decide_eq_true h9, Bool.true_and]
  refine Decidable.byCases (fun h10 : p10 = q10 => ?_) (fun h10 : ¬ p10 = q10 => by rw [if_neg h10, decide_eq_false h10, Bool.false_and])
  rw [if_pos h10, decide_eq_true h10, Bool.true_and]
  refine Decidable.byCases (fun h11 : p11 = q11 => ?_) (fun h11 : ¬ p11 = q11 => by rw [if_neg h11, decide_eq_false h11, Bool.false_and])
  rw [if_pos h11, decide_eq_true h11, Bool.true_and]
  exact Decidable.byCases (fun h : p12 = q12 => by rw [if_pos h, decide_eq_true h]) (fun h : ¬ p12 = q12 => by rw [if_neg h, decide_eq_false h])
theorem eqg_dg (W : World) (A B : List Int) (x y : Operand) : Sem.run Tryz.prog (eqGuard BinOp.eql 154 x y (dgA A) (dgA B)) W = .ok () W := by kernel_rfl
end Go.Proofs.YtillkhjihggcjaaGreatDoor
