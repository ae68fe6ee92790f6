/-
  append onto an empty slice without room, whatever it points at; steps of regions that draw their order.
-/
import Derived.Test.YtillkhjihggcjaaGreatDoorK5
namespace Go.Proofs.YtillkhjihggcjaaGreatDoor
open Go.RowKit
/-- A row of the call's own, or a slice that is empty. -/
def Rw (k : IntKind) (e : TypeId) (B : Nat) (w : World) (v : Value) (xs : List Int) : Prop := Row k e B w v xs ∨ (xs = [] ∧ ∃ a c, v = .slice a 0 c)
theorem Rw.sl {k : IntKind} {e : TypeId} {B : Nat} {w : World} {v : Value} {xs : List Int} (h : Rw k e B w v xs) : Sl k w v xs := by
  rcases h with h | ⟨rfl, a, c, rfl⟩
  · exact h.sl
  · exact ⟨a, c, rfl, Nat.zero_le _, .inl rfl⟩
theorem Rw.below {k : IntKind} {e : TypeId} {B : Nat} {w w' : World} {v : Value} {xs : List Int} (h : Rw k e B w v xs) (hb : Below w.heap.size w w') : Rw k e B w' v xs := by
  rcases h with h | h
  · exact .inl (h.below hb)
  · exact .inr h
theorem Rw.alloc {k : IntKind} {e : TypeId} {B : Nat} {w : World} {v : Value} {xs : List Int} (h : Rw k e B w v xs) (o : Obj) : Rw k e B (w.alloc o) v xs := h.below ((Below.refl _ _).alloc (Nat.le_refl _) o)
theorem Rw.mono {k : IntKind} {e : TypeId} {B B' : Nat} {w : World} {v : Value} {xs : List Int} (h : Rw k e B w v xs) (hb : B' ≤ B) : Rw k e B' w v xs := by
  rcases h with h | h
  · exact .inl (h.mono hb)
  · exact .inr h
theorem Rw.ne {k : IntKind} {e : TypeId} {B : Nat} {w : World} {v : Value} {xs : List Int} (h : Rw k e B w v xs) : ∃ a c, v = .slice a xs.length c := by
  rcases h with h | ⟨rfl, a, c, rfl⟩
  · exact h.ne
  · exact ⟨a, c, rfl⟩
theorem run_ap0 {P : Program} (w : World) (t tx ty e : TypeId) (i : TypeInfo) (k : IntKind) (ht : P.underlying t = some (.slice e)) (hi : P.info? e = some i) (hz : i.zero = some (.int k 0)) (hsize : i.size = 1) (hby : 0 < i.bytes)
    (a : Addr) {B : Nat} {x : Value} {ys : List Int} (hs : Src P 1 tx x ys.length (ys.map (Value.int k)) w) (hb : ys.length * i.bytes ≤ 140737488355328) (hB : B ≤ w.heap.size) :
    ∃ v' w', (Builtin.append_ #[t, tx] ty #[.slice (some a) 0 0, x]).run P w = .ok v' w' ∧ Rw k e B w' v' ys ∧ Below w.heap.size w w' := by
  have hle : ys.length ≤ 140737488355328 := Nat.le_trans (Nat.le_mul_of_pos_right _ hby) hb
  have hs1 : Src P i.size tx x ys.length (ys.map (Value.int k)) w := by rw [hsize]; exact hs
  by_cases h0 : ys.length = 0
  · have hy : ys = [] := List.eq_nil_of_length_eq_zero h0
    subst hy
    refine ⟨.slice (some a) 0 0, w, ?_, .inr ⟨rfl, _, _, rfl⟩, Below.refl _ _⟩
    have h1 := hs1.cells
    have h2 := hs1.len
    simp only [List.length_nil, List.map_nil] at h1 h2
    rcases hs1.kind with ⟨e', hk⟩ | hk
    · simp [Builtin.append_, run_underlying ht, run_underlying hk, sizeOf, typeInfo, hi, h2, h1, storeCells]
    · simp [Builtin.append_, run_underlying ht, run_underlying hk, sizeOf, typeInfo, hi, h2, h1, storeCells]
  · have hold : (Builtin.firstCells i.size 0 (.slice (some a) 0 0)).run P w.drew = .ok ([] : List Value).toArray w.drew := run_firstCells_some w.drew i.size 0 a 0 0 [] (by simp) (by simp)
    have h1 := run_append_grow_src (P := P) w t tx ty e i (.int k 0) ht hi hz (some a) 0 0 _ hold x ys.length _ hs1 (by omega) (by omega) (growslice_fits (by omega) (by rw [Nat.zero_add]; exact hb))
    refine ⟨_, _, h1, .inl ?_, (Below.refl _ _).drew.alloc (Nat.le_refl _) _⟩
    have hge := grownCap_ge w (0 + ys.length) 0 e
    have hcm : grownCap w (0 + ys.length) 0 e ≤ maxLen := grownCap_le_maxLen w _ 0 e (by unfold maxLen; omega)
    obtain ⟨C, hC⟩ : ∃ C, grownCap w (0 + ys.length) 0 e = 0 + ys.length + C := ⟨_, (Nat.add_sub_of_le hge).symm⟩
    rw [hC] at hcm ⊢
    have hzc : Builtin.zeroCells (Value.cells (.int k 0)) C = (List.replicate C (.int k 0)).toArray := by
      apply Array.ext'
      simp only [Builtin.zeroCells, Value.cells]
      simp
      rw [List.eq_replicate_iff]
      exact ⟨by simp, fun y hy => by obtain ⟨j, _, rfl⟩ := List.mem_map.1 hy; simp [Nat.mod_one]⟩
    refine .inr ⟨w.heap.size, ys ++ List.replicate C 0, ?_, hB, ?_, by simp, List.take_left, by simp; omega⟩
    · simp
    · unfold Arr
      rw [show 0 + ys.length + C - (0 + ys.length) = C by omega, hzc]
      have := heap_alloc_new w.drew (.cells ((ys.map (Value.int k)).toArray ++ (List.replicate C (Value.int k 0)).toArray) e)
      simp only [List.map_append, List.map_replicate]
      rw [show (w.drew.heap.size) = w.heap.size from rfl] at this
      simp only [List.nil_append]
      rw [this]; simp
theorem step_ap0 {P : Program} {ops : Array Oper} {o : Oper} {a : Act} {w : World} {K : Act → World → Prop} {Q : Exit → Act → World → Prop} {E : Prop} (hgd : o.guard = none) (s x : Operand) (t tx : TypeId)
    (ho : o.op = .call { callee := .builtin .append, args := #[s, x], argTypes := #[t, tx] }) (k : IntKind) (e : TypeId) (bytes : Nat) (ht : P.underlying t = some (.slice e))
    (hi : (P.info? e).map (fun i => (i.zero, i.size, i.bytes)) = some (some (.int k 0), 1, bytes)) (hby : 0 < bytes)
    (B : Nat) (ad : Addr) (hs : a.eval s = .slice (some ad) 0 0) (u : Value) (ys : List Int) (hx : a.eval x = u) (hy : Src P 1 tx u ys.length (ys.map (Value.int k)) w)
    (hb : ys.length * bytes ≤ 140737488355328) (hB : B ≤ w.heap.size)
    (h : ∀ v' w', Rw k e B w' v' ys → Below w.heap.size w w' → K (a.put o.dst v') w') : if Region.wanted o (yielded ops a.tmps) = true then Oper.wp P o a w K Q else E := by
  have hw : Region.wanted o (yielded ops a.tmps) = true := by simp [Region.wanted, hgd]
  rw [if_pos hw]
  obtain ⟨i0, hi0, hz0, hz1, hz2⟩ := info_parts hi
  obtain ⟨v', w', hrun, h2, h3⟩ := run_ap0 (P := P) w t tx o.type e i0 k ht hi0 hz0 hz1 (by omega) ad (B := B) hy (by rw [hz2]; exact hb) hB
  unfold Oper.wp execOp
  simp only [ho, resolve, invoke, builtin, Sem.run_bind, Sem.run_pure, Result.andThen_ok, List.map_toArray, List.map_cons, List.map_nil, hs, hx, hrun]
  exact h v' w' h2 h3
theorem step_apm {P : Program} {ops : Array Oper} {o : Oper} {a : Act} {w : World} {K : Act → World → Prop} {Q : Exit → Act → World → Prop} {E : Prop} (hgd : o.guard = none) (s x : Operand) (t tx : TypeId)
    (ho : o.op = .call { callee := .builtin .append, args := #[s, x], argTypes := #[t, tx] }) (m : Nat) (z : Value) (hzs : z.cells.size = m) (e : TypeId) (bytes : Nat) (ht : P.underlying t = some (.slice e))
    (hi : (P.info? e).map (fun i => (i.zero, i.size, i.bytes)) = some (some z, m, bytes)) (hby : 0 < bytes)
    (B : Nat) (v : Value) (n : Nat) (xs : List Value) (hs : a.eval s = v) (hr : MRow m e B w v n xs) (u : Value) (k : Nat) (ys : List Value) (hx : a.eval x = u) (hy : Src P m tx u k ys w)
    (hb : (n + k) * bytes ≤ 140737488355328) (hB : B ≤ w.heap.size)
    (h : ∀ v' w', MRow m e B w' v' (n + k) (xs ++ ys) → MGrew e w w' v → K (a.put o.dst v') w') : if Region.wanted o (yielded ops a.tmps) = true then Oper.wp P o a w K Q else E := by
  have hw : Region.wanted o (yielded ops a.tmps) = true := by simp [Region.wanted, hgd]
  rw [if_pos hw]
  obtain ⟨i0, hi0, hz0, hz1, hz2⟩ := info_parts hi
  obtain ⟨v', w', hrun, h2, h3⟩ := run_apm (P := P) w t tx o.type e i0 m z ht hi0 hz0 hz1 hzs (by omega) hr hy (by rw [hz2]; exact hb) hB
  unfold Oper.wp execOp
  simp only [ho, resolve, invoke, builtin, Sem.run_bind, Sem.run_pure, Result.andThen_ok, List.map_toArray, List.map_cons, List.map_nil, hs, hx, hrun]
  exact h v' w' h2 h3
end Go.Proofs.YtillkhjihggcjaaGreatDoor
