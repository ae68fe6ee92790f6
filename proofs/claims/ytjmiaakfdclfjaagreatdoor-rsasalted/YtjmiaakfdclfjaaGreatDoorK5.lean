/-
  append onto a slice that lies in a whole block of its own (or is nil), from whatever source, in the words of Base.
-/
import Derived.Deep.AppendSrc
import Derived.Deep.RegionHeld3
import Derived.Test.YtjmiaakfdclfjaaGreatDoorK4
namespace Go.Proofs.YtjmiaakfdclfjaaGreatDoor.Nt
open Go.RowKit

/-- A slice of the call's own: memory from block B on, the head of a whole block of numbers, or nil; it reads xs. -/
def Row (k : IntKind) (e : TypeId) (B : Nat) (w : World) (v : Value) (xs : List Int) : Prop :=
  (v = .slice none 0 0 ∧ xs = []) ∨ ∃ b S, v = .slice (some ⟨b, 0, none⟩) xs.length S.length ∧ B ≤ b ∧ Arr k e w b S ∧ xs.length ≤ S.length ∧ S.take xs.length = xs ∧ S.length ≤ maxLen
/-- What an append has done: only new memory, or the spare room of v's block has been written. -/
def Grew (k : IntKind) (e : TypeId) (w w' : World) (v : Value) (ys : List Int) : Prop :=
  Below w.heap.size w w' ∨ ∃ b n S, v = .slice (some ⟨b, 0, none⟩) n S.length ∧ Arr k e w b S ∧ Upd w w' b ∧ n + ys.length ≤ S.length ∧ Arr k e w' b (S.take n ++ ys ++ S.drop (n + ys.length))

theorem Row.nil (k : IntKind) (e : TypeId) (B : Nat) (w : World) : Row k e B w (.slice none 0 0) [] := .inl ⟨rfl, rfl⟩
theorem Row.sl {k : IntKind} {e : TypeId} {B : Nat} {w : World} {v : Value} {xs : List Int} (h : Row k e B w v xs) : Sl k w v xs := by
  rcases h with ⟨rfl, rfl⟩ | ⟨b, S, rfl, _, hA, hl, ht, _⟩
  · exact ⟨none, 0, rfl, Nat.le_refl _, .inl rfl⟩
  · refine ⟨_, _, rfl, hl, .inr ⟨b, 0, rfl, hA.lt, ?_⟩⟩
    have := hA.rd 0 xs.length (by omega)
    rw [List.drop_zero, ht] at this; exact this
theorem Row.below {k : IntKind} {e : TypeId} {B : Nat} {w w' : World} {v : Value} {xs : List Int} (h : Row k e B w v xs) (hb : Below w.heap.size w w') : Row k e B w' v xs := by
  rcases h with h | ⟨b, S, rfl, h1, hA, h2⟩
  · exact .inl h
  · exact .inr ⟨b, S, rfl, h1, below_arr hb hA.lt hA, h2⟩
theorem Row.mono {k : IntKind} {e : TypeId} {B B' : Nat} {w : World} {v : Value} {xs : List Int} (h : Row k e B w v xs) (hb : B' ≤ B) : Row k e B' w v xs := by
  rcases h with h | ⟨b, S, rfl, h1, h2⟩
  · exact .inl h
  · exact .inr ⟨b, S, rfl, by omega, h2⟩
theorem Row.ne {k : IntKind} {e : TypeId} {B : Nat} {w : World} {v : Value} {xs : List Int} (h : Row k e B w v xs) : ∃ a c, v = .slice a xs.length c := by
  rcases h with ⟨rfl, rfl⟩ | ⟨b, S, rfl, _⟩
  · exact ⟨_, _, rfl⟩
  · exact ⟨_, _, rfl⟩
theorem Row.open {k : IntKind} {e : TypeId} {B : Nat} {w : World} {v : Value} {xs : List Int} (h : Row k e B w v xs) (n : Nat) (hn : xs.length = n) (h0 : 0 < n) :
    ∃ b S, v = .slice (some ⟨b, 0, none⟩) n S.length ∧ B ≤ b ∧ Arr k e w b S ∧ n ≤ S.length ∧ S.take n = xs ∧ S.length ≤ maxLen := by
  subst hn
  rcases h with ⟨_, rfl⟩ | h
  · simp at h0
  · exact h
theorem Row.arr {k : IntKind} {e : TypeId} {B : Nat} {w : World} {b : Nat} {S : List Int} (h : Arr k e w b S) (hB : B ≤ b) (hl : S.length ≤ maxLen) : Row k e B w (.slice (some ⟨b, 0, none⟩) S.length S.length) S :=
  .inr ⟨b, S, rfl, hB, h, Nat.le_refl _, List.take_length, hl⟩
theorem Row.alloc {k : IntKind} {e : TypeId} {B : Nat} {w : World} {v : Value} {xs : List Int} (h : Row k e B w v xs) (o : Obj) : Row k e B (w.alloc o) v xs :=
  h.below ((Below.refl _ _).alloc (Nat.le_refl _) o)
theorem Grew.below {k : IntKind} {e : TypeId} {B : Nat} {w w' : World} {v : Value} {xs ys : List Int} (h : Grew k e w w' v ys) (hr : Row k e B w v xs) (hB : B ≤ w.heap.size) : Below B w w' := by
  rcases h with h | ⟨b, n, S, rfl, _, hU, _⟩
  · exact h.mono hB
  · rcases hr with ⟨h, _⟩ | ⟨b', S', h, hb, _⟩
    · cases h
    · simp only [Value.slice.injEq, Option.some.injEq, Addr.mk.injEq, and_true] at h
      obtain ⟨rfl, _, _⟩ := h
      exact hU.below (Below.refl _ _) hB hb

theorem src_sl {P : Program} {tx e' : TypeId} (hk : P.underlying tx = some (.slice e')) {k : IntKind} {w : World} {v : Value} {ys : List Int} (h : Sl k w v ys) : Src P 1 tx v ys.length (ys.map (Value.int k)) w := by
  obtain ⟨a, c, rfl, hc, h⟩ := h
  have ho : ∀ u ∈ ys.map (Value.int k), u.oneCell' = true := by intro u hu; obtain ⟨x, _, rfl⟩ := List.mem_map.1 hu; rfl
  rcases h with rfl | ⟨b, off, rfl, hb, hr⟩
  · cases a with
    | none => exact Src.ofNil w hk c
    | some a => exact Src.ofSlice w hk a 0 c [] (by simp) (by simp) (by simp)
  · refine Src.ofSlice w hk _ _ _ _ (by simp) (fun j u hj => ?_) ho
    have hl : j < ys.length := by have := (List.getElem?_eq_some_iff.1 hj).1; simpa using this
    have hadd : (⟨b, off, none⟩ : Addr).add j = ⟨b, off + j, none⟩ := by simp [Addr.add]
    rw [hadd, hr j hl, ← hj]; simp [hl]

theorem run_ap {P : Program} (w : World) (t tx ty e : TypeId) (i : TypeInfo) (k : IntKind) (ht : P.underlying t = some (.slice e)) (hi : P.info? e = some i) (hz : i.zero = some (.int k 0)) (hsize : i.size = 1) (hby : 0 < i.bytes)
    {B : Nat} {v : Value} {xs : List Int} (hr : Row k e B w v xs) {x : Value} {ys : List Int} (hs : Src P 1 tx x ys.length (ys.map (Value.int k)) w)
    (hb : (xs.length + ys.length) * i.bytes ≤ 140737488355328) (hB : B ≤ w.heap.size) :
    ∃ v' w', (Builtin.append_ #[t, tx] ty #[v, x]).run P w = .ok v' w' ∧ Row k e B w' v' (xs ++ ys) ∧ Grew k e w w' v ys := by
  have hle : xs.length + ys.length ≤ 140737488355328 := Nat.le_trans (Nat.le_mul_of_pos_right _ hby) hb
  have hs1 : Src P i.size tx x ys.length (ys.map (Value.int k)) w := by rw [hsize]; exact hs
  have grown : ∀ (base : Option Addr) (old : Nat), old < xs.length + ys.length → (Builtin.firstCells i.size xs.length (.slice base xs.length old)).run P w.drew = .ok (xs.map (Value.int k)).toArray w.drew →
      ∃ v' w', (Builtin.append_ #[t, tx] ty #[.slice base xs.length old, x]).run P w = .ok v' w' ∧ Row k e B w' v' (xs ++ ys) ∧ Grew k e w w' (.slice base xs.length old) ys := by
    intro base old ho hold
    have h1 := run_append_grow_src (P := P) w t tx ty e i (.int k 0) ht hi hz base xs.length old _ hold x ys.length _ hs1 ho (by omega) (growslice_fits (by omega) hb)
    refine ⟨_, _, h1, ?_, .inl ((Below.refl _ _).drew.alloc (Nat.le_refl _) _)⟩
    have hge := grownCap_ge w (xs.length + ys.length) old e
    have hcm : grownCap w (xs.length + ys.length) old e ≤ maxLen := grownCap_le_maxLen w _ old e (by unfold maxLen; omega)
    obtain ⟨C, hC⟩ : ∃ C, grownCap w (xs.length + ys.length) old e = xs.length + ys.length + C := ⟨_, (Nat.add_sub_of_le hge).symm⟩
    rw [hC] at hcm ⊢
    have hzc : Builtin.zeroCells (Value.cells (.int k 0)) C = (List.replicate C (.int k 0)).toArray := by
      apply Array.ext'
      simp only [Builtin.zeroCells, Value.cells]
      simp
      rw [List.eq_replicate_iff]
      exact ⟨by simp, fun y hy => by obtain ⟨j, _, rfl⟩ := List.mem_map.1 hy; simp [Nat.mod_one]⟩
    refine .inr ⟨w.heap.size, xs ++ ys ++ List.replicate C 0, ?_, hB, ?_, by simp, List.take_left, by simp; omega⟩
    · simp; omega
    · unfold Arr
      rw [show xs.length + ys.length + C - (xs.length + ys.length) = C by omega, hzc]
      have := heap_alloc_new w.drew (.cells ((xs.map (Value.int k) ++ ys.map (Value.int k)).toArray ++ (List.replicate C (Value.int k 0)).toArray) e)
      simp only [List.map_append, List.map_replicate]
      rw [show (w.drew.heap.size) = w.heap.size from rfl] at this
      rw [this]; simp
  rcases hr with ⟨rfl, rfl⟩ | ⟨b, S, rfl, hBb, hA, hl, htk, hm⟩
  · by_cases h0 : ys.length = 0
    · have hy : ys = [] := List.eq_nil_of_length_eq_zero h0
      subst hy
      refine ⟨.slice none 0 0, w, ?_, .inl ⟨rfl, rfl⟩, .inl (Below.refl _ _)⟩
      have h1 := hs1.cells
      have h2 := hs1.len
      simp only [List.length_nil, List.map_nil] at h1 h2
      rcases hs1.kind with ⟨e', hk⟩ | hk
      · simp [Builtin.append_, run_underlying ht, run_underlying hk, sizeOf, typeInfo, hi, h2, h1]
      · simp [Builtin.append_, run_underlying ht, run_underlying hk, sizeOf, typeInfo, hi, h2, h1]
    · exact grown none 0 (by simp; omega) (run_firstCells_none w.drew i.size 0 0 0)
  · by_cases hroom : xs.length + ys.length ≤ S.length
    · have hst := run_storeCells_at P b (xs.length * i.size) e (ys.map (Value.int k)) 0 _ w hA (by simp [hsize]; omega) hs1.one
      simp only [Nat.add_zero] at hst
      have hrun : (Builtin.append_ #[t, tx] ty #[.slice (some ⟨b, 0, none⟩) xs.length S.length, x]).run P w = .ok (.slice (some ⟨b, 0, none⟩) (xs.length + ys.length) S.length) (w.setRow b (((S.map (Value.int k)).toArray.toList.take (xs.length * i.size)) ++ ys.map (Value.int k) ++ ((S.map (Value.int k)).toArray.toList.drop (xs.length * i.size + (ys.map (Value.int k)).length))).toArray) := by
        rcases hs1.kind with ⟨e', hk⟩ | hk <;> simp [Builtin.append_, run_underlying ht, run_underlying hk, sizeOf, typeInfo, hi, hs1.len, hroom, hs1.cells, Addr.add_lit, hst]
      have hA' : Arr k e (w.setRow b (((S.map (Value.int k)).toArray.toList.take (xs.length * i.size)) ++ ys.map (Value.int k) ++ ((S.map (Value.int k)).toArray.toList.drop (xs.length * i.size + (ys.map (Value.int k)).length))).toArray) b (S.take xs.length ++ ys ++ S.drop (xs.length + ys.length)) := by
        unfold Arr
        rw [setRow_heap w b _ _ e _ hA]
        simp [hsize, List.map_take, List.map_drop]
      have hlen : (S.take xs.length ++ ys ++ S.drop (xs.length + ys.length)).length = S.length := by simp; omega
      refine ⟨_, _, hrun, .inr ⟨b, _, ?_, hBb, hA', ?_, ?_, ?_⟩, .inr ⟨b, xs.length, S, rfl, hA, ⟨rfl, rfl, rfl, by simp [World.setRow], fun j _ hj => setRow_other w b j _ (fun e => hj (by simp [e]))⟩, hroom, hA'⟩⟩
      · rw [hlen]; simp
      · rw [hlen]; simp; omega
      · rw [htk]; exact List.take_left
      · rw [hlen]; exact hm
    · refine grown (some ⟨b, 0, none⟩) S.length (by omega) (run_firstCells_some w.drew i.size xs.length ⟨b, 0, none⟩ xs.length S.length _ (by simp [hsize]) (fun j u hj => ?_))
      have hj' : j < xs.length := by have := (List.getElem?_eq_some_iff.1 hj).1; simpa using this
      have hadd : (⟨b, 0, none⟩ : Addr).add j = ⟨b, j, none⟩ := by simp [Addr.add]; try omega
      have := hA.cell j (by omega)
      rw [hadd]
      have e1 : (w.drew).cell? ⟨b, j, none⟩ = w.cell? ⟨b, j, none⟩ := rfl
      rw [e1, this, ← hj]
      have e2 : S.getD j 0 = xs.getD j 0 := by
        have : (S.take xs.length).getD j 0 = S.getD j 0 := by simp [List.getD, hj']
        rw [← this, htk]
      rw [e2]; simp [hj']

theorem wpList_ap {P : Program} {w : World} {ops : Array Oper} {rest : List Oper} {o : Oper} {a : Act} {Q : Exit → Act → World → Prop} (hgd : o.guard = none) (s x : Operand) (t tx : TypeId)
    (ho : o.op = .call { callee := .builtin .append, args := #[s, x], argTypes := #[t, tx] }) (k : IntKind) (e : TypeId) (bytes : Nat) (ht : P.underlying t = some (.slice e))
    (hi : (P.info? e).map (fun i => (i.zero, i.size, i.bytes)) = some (some (.int k 0), 1, bytes)) (hby : 0 < bytes)
    (B : Nat) (v : Value) (xs : List Int) (hs : a.eval s = v) (hr : Row k e B w v xs) (u : Value) (ys : List Int) (hx : a.eval x = u) (hy : Src P 1 tx u ys.length (ys.map (Value.int k)) w)
    (hb : (xs.length + ys.length) * bytes ≤ 140737488355328) (hB : B ≤ w.heap.size)
    (h : ∀ v' w', Row k e B w' v' (xs ++ ys) → Grew k e w w' v ys → wpList P ops Q rest (a.put o.dst v') w') : wpList P ops Q (o :: rest) a w := by
  obtain ⟨i0, hi0, hz0, hz1, hz2⟩ := info_parts hi
  refine wpList_plain hgd fun K hK => ?_
  obtain ⟨v', w', hrun, h2, h3⟩ := run_ap (P := P) w t tx o.type e i0 k ht hi0 hz0 hz1 (by omega) hr hy (by rw [hz2]; exact hb) hB
  unfold Oper.wp execOp
  simp only [ho, resolve, invoke, builtin, Sem.run_bind, Sem.run_pure, Result.andThen_ok, List.map_toArray, List.map_cons, List.map_nil, hs, hx, hrun]
  exact hK _ _ (h v' w' h2 h3)
/-- The same, as one step of a region that draws its order. -/
theorem step_ap {P : Program} {ops : Array Oper} {o : Oper} {a : Act} {w : World} {K : Act → World → Prop} {Q : Exit → Act → World → Prop} {E : Prop} (hgd : o.guard = none) (s x : Operand) (t tx : TypeId)
    (ho : o.op = .call { callee := .builtin .append, args := #[s, x], argTypes := #[t, tx] }) (k : IntKind) (e : TypeId) (bytes : Nat) (ht : P.underlying t = some (.slice e))
    (hi : (P.info? e).map (fun i => (i.zero, i.size, i.bytes)) = some (some (.int k 0), 1, bytes)) (hby : 0 < bytes)
    (B : Nat) (v : Value) (xs : List Int) (hs : a.eval s = v) (hr : Row k e B w v xs) (u : Value) (ys : List Int) (hx : a.eval x = u) (hy : Src P 1 tx u ys.length (ys.map (Value.int k)) w)
    (hb : (xs.length + ys.length) * bytes ≤ 140737488355328) (hB : B ≤ w.heap.size)
    (h : ∀ v' w', Row k e B w' v' (xs ++ ys) → Grew k e w w' v ys → K (a.put o.dst v') w') : if Region.wanted o (yielded ops a.tmps) = true then Oper.wp P o a w K Q else E := by
  have hw : Region.wanted o (yielded ops a.tmps) = true := by simp [Region.wanted, hgd]
  rw [if_pos hw]
  obtain ⟨i0, hi0, hz0, hz1, hz2⟩ := info_parts hi
  obtain ⟨v', w', hrun, h2, h3⟩ := run_ap (P := P) w t tx o.type e i0 k ht hi0 hz0 hz1 (by omega) hr hy (by rw [hz2]; exact hb) hB
  unfold Oper.wp execOp
  simp only [ho, resolve, invoke, builtin, Sem.run_bind, Sem.run_pure, Result.andThen_ok, List.map_toArray, List.map_cons, List.map_nil, hs, hx, hrun]
  exact h v' w' h2 h3
end Go.Proofs.YtjmiaakfdclfjaaGreatDoor.Nt
/-
  The walks of the reference's plain, digit, order: whatever the lists of digits.
-/
namespace Go.Proofs.YtjmiaakfdclfjaaGreatDoor.Nt
open Go.RowKit

set_option maxHeartbeats 400000 in
theorem plain_any (xs : List Int) (a : Option Addr) (c : Nat) (w : World) (h : Sl .u64 w (.slice a xs.length c) xs) (hl : xs.length ≤ 1152921504606846976) :
    Calls Tryz.prog 67 #[.slice a xs.length c] w fun e w' => e = .returned (.slice a (D.sig xs) c) ∧ w' = w := by
  have hc : xs.length ≤ c := by obtain ⟨_, _, h1, hc, _⟩ := h; cases h1; exact hc
  obtain ⟨a, c, hv, _, h1⟩ := h
  cases hv
  rcases h1 with rfl | ⟨b, off, rfl, hb, hr⟩
  · simp only [List.length_nil]
    go_enter Tryz.func67, Tryz.ntmps67
    go_wp2
    go_loop [3] (fun i => i = .int .i64 0) (fun _ => 0)
    case atStart => rfl
    case round =>
      subst hrel
      go_wp2
      go_ret
      exact ⟨by simp [D.sig], rfl⟩
  · go_enter Tryz.func67, Tryz.ntmps67
    go_wp2
    go_loop [3] (fun i => ∃ k : Nat, k ≤ xs.length ∧ i = .int .i64 k ∧ ∀ j, k ≤ j → j < xs.length → xs.getD j 0 = 0) (fun i => (intOf i).toNat)
    case atStart => exact ⟨xs.length, Nat.le_refl _, rfl, fun j h1 h2 => by omega⟩
    case round =>
      obtain ⟨k, hk, rfl, hz⟩ := hrel
      by_cases hk0 : k = 0
      · subst hk0
        have HS : Hid (D.sig xs = 0) := D.sig_eq (Nat.zero_le _) hz (.inl rfl)
        clear hz
        go_wp2
        go_ret
        exact ⟨by rw [HS.out]; rfl, rfl⟩
      · obtain ⟨m, rfl⟩ : ∃ m, k = m + 1 := ⟨k - 1, by omega⟩
        obtain ⟨x, hx⟩ : ∃ x, xs.getD m 0 = x := ⟨_, rfl⟩
        have hcell := hr m (by omega)
        rw [hx] at hcell
        have HZ : Hid (∀ j, m + 1 ≤ j → j < xs.length → xs.getD j 0 = 0) := hz
        have HX : Hid (xs.getD m 0 = x) := hx
        clear hz hx hr
        by_cases hx0 : x = 0
        · go_wp2
          go_round
          case rel => exact ⟨m, by omega, by go_num, fun j h1 h2 => by
            by_cases h3 : j = m
            · subst h3; rw [HX.out]; exact hx0
            · exact HZ.out j (by omega) h2⟩
          case measure => simp [intOf]
        · go_wp2
          go_ret
          exact ⟨by rw [D.sig_eq (k := m + 1) hk HZ.out (.inr (by intro h3; exact hx0 (HX.out.symm.trans h3)))]; rfl, rfl⟩
theorem plain_sl {w : World} (v : Value) (xs : List Int) (h : Sl .u64 w v xs) (hu : D.U16s xs) (hl : xs.length ≤ 1152921504606846976) (N : Int) (hN : D.val xs = N) :
    Calls Tryz.prog 67 #[v] w fun e w' => ∃ r, e = .returned r ∧ Sl .u64 w' r (D.lim N.toNat) ∧ w = w' := by
  subst hN
  have h0 := h
  obtain ⟨a, c, rfl, hc, h1⟩ := h
  refine (plain_any xs a c w h0 hl).mono ?_
  rintro e w' ⟨rfl, rfl⟩
  have hs := D.sig_le xs
  have e1 := D.take_sig_lim hu
  have e2 : (D.lim (D.val xs).toNat).length = D.sig xs := by rw [← e1]; simp; omega
  refine ⟨_, rfl, ⟨a, c, by rw [e2], by omega, ?_⟩, rfl⟩
  rcases h1 with rfl | ⟨b, off, rfl, hb, hr⟩
  · left; rfl
  · right; exact ⟨b, off, rfl, hb, by rw [← e1]; exact hr.take _⟩

/-- As Sl, in memory from block B on. -/
def SlN (k : IntKind) (B : Nat) (w : World) (v : Value) (xs : List Int) : Prop :=
  ∃ a c, v = .slice a xs.length c ∧ xs.length ≤ c ∧ (xs = [] ∨ ∃ b off, a = some ⟨b, off, none⟩ ∧ B ≤ b ∧ b < w.heap.size ∧ Rd k w b off xs)
theorem SlN.sl {k : IntKind} {B : Nat} {w : World} {v : Value} {xs : List Int} (h : SlN k B w v xs) : Sl k w v xs := by
  obtain ⟨a, c, hv, hc, h⟩ := h
  exact ⟨a, c, hv, hc, h.imp id fun ⟨b, off, ha, _, hb, hr⟩ => ⟨b, off, ha, hb, hr⟩⟩
theorem SlN.below {k : IntKind} {B : Nat} {w w' : World} {v : Value} {xs : List Int} (h : SlN k B w v xs) (hB : Below w.heap.size w w') : SlN k B w' v xs := by
  obtain ⟨a, c, hv, hc, h⟩ := h
  exact ⟨a, c, hv, hc, h.imp id fun ⟨b, off, ha, h1, hb, hr⟩ => ⟨b, off, ha, h1, Nat.lt_of_lt_of_le hb hB.size, below_rd hB hb hr⟩⟩
theorem SlN.mono {k : IntKind} {B B' : Nat} {w : World} {v : Value} {xs : List Int} (h : SlN k B w v xs) (hB : B' ≤ B) : SlN k B' w v xs := by
  obtain ⟨a, c, hv, hc, h⟩ := h
  exact ⟨a, c, hv, hc, h.imp id fun ⟨b, off, ha, h1, h2⟩ => ⟨b, off, ha, by omega, h2⟩⟩
theorem SlN.upd {k : IntKind} {B : Nat} {w w' : World} {v : Value} {xs : List Int} {b0 : Nat} (h : SlN k B w v xs) (hU : Upd w w' b0) (hlt : b0 < B) : SlN k B w' v xs := by
  obtain ⟨a, c, hv, hc, h⟩ := h
  exact ⟨a, c, hv, hc, h.imp id fun ⟨b, off, ha, h1, hb, hr⟩ => ⟨b, off, ha, h1, Nat.lt_of_lt_of_le hb hU.size, hU.rd hb hr (by omega)⟩⟩
theorem SlN.nil (k : IntKind) (B : Nat) (w : World) : SlN k B w (.slice none 0 0) [] := ⟨none, 0, rfl, Nat.le_refl _, .inl rfl⟩
theorem Row.sln {k : IntKind} {e : TypeId} {B : Nat} {w : World} {v : Value} {xs : List Int} (h : Row k e B w v xs) : SlN k B w v xs := by
  rcases h with ⟨rfl, rfl⟩ | ⟨b, S, rfl, hB, hA, hl, ht, _⟩
  · exact SlN.nil _ _ _
  · refine ⟨_, _, rfl, hl, .inr ⟨b, 0, rfl, hB, hA.lt, ?_⟩⟩
    have := hA.rd 0 xs.length (by omega)
    rw [List.drop_zero, ht] at this; exact this
theorem plain_new {w : World} {B : Nat} (v : Value) (xs : List Int) (h : SlN .u64 B w v xs) (hu : D.U16s xs) (hl : xs.length ≤ 1152921504606846976) (N : Int) (hN : D.val xs = N) :
    Calls Tryz.prog 67 #[v] w fun e w' => ∃ r, e = .returned r ∧ SlN .u64 B w' r (D.lim N.toNat) ∧ w = w' := by
  subst hN
  have h0 := h.sl
  obtain ⟨a, c, rfl, hc, h1⟩ := h
  refine (plain_any xs a c w h0 hl).mono ?_
  rintro e w' ⟨rfl, rfl⟩
  have hs := D.sig_le xs
  have e1 := D.take_sig_lim hu
  have e2 : (D.lim (D.val xs).toNat).length = D.sig xs := by rw [← e1]; simp; omega
  refine ⟨_, rfl, ⟨a, c, by rw [e2], by omega, ?_⟩, rfl⟩
  rcases h1 with rfl | ⟨b, off, rfl, hB, hb, hr⟩
  · left; rfl
  · right; exact ⟨b, off, rfl, hB, hb, by rw [← e1]; exact hr.take _⟩

theorem digit_any {w : World} (v : Value) (xs : List Int) (h : Sl .u64 w v xs) (hl : xs.length ≤ 1152921504606846976) (i : Int) (hi : -1152921504606846976 ≤ i ∧ i ≤ 1152921504606846976) (x : Int) (hx : (if 0 ≤ i then xs.getD i.toNat 0 else 0) = x) :
    Calls Tryz.prog 75 #[v, .int .i64 i] w fun e w' => e = .returned (.int .u64 x) ∧ w = w' := by
  obtain ⟨a, c, rfl, hc, h1⟩ := h
  by_cases hi0 : 0 ≤ i
  · obtain ⟨n, rfl⟩ : ∃ n : Nat, i = n := ⟨i.toNat, by omega⟩
    rw [if_pos hi0] at hx
    simp only [Int.toNat_natCast] at hx
    by_cases hn : n < xs.length
    · rcases h1 with rfl | ⟨b, off, rfl, hb, hr⟩
      · simp at hn
      · have hcell := hr n hn
        rw [hx] at hcell
        clear hx hr
        go_enter Tryz.func75, Tryz.ntmps75
        go_wp2
        go_ret
        exact ⟨rfl, rfl⟩
    · have hx0 : x = 0 := by rw [← hx]; simp [List.getD, List.getElem?_eq_none (Nat.le_of_not_lt hn)]
      subst hx0
      clear hx
      go_enter Tryz.func75, Tryz.ntmps75
      go_wp2
      go_ret
      exact ⟨rfl, rfl⟩
  · rw [if_neg hi0] at hx
    subst hx
    go_enter Tryz.func75, Tryz.ntmps75
    go_wp2
    go_ret
    exact ⟨rfl, rfl⟩
theorem digit_nat {w : World} (v : Value) (xs : List Int) (h : Sl .u64 w v xs) (hl : xs.length ≤ 1152921504606846976) (n : Nat) (hn : n ≤ 1152921504606846976) (x : Int) (hx : xs.getD n 0 = x) :
    Calls Tryz.prog 75 #[v, .int .i64 n] w fun e w' => e = .returned (.int .u64 x) ∧ w = w' :=
  digit_any v xs h hl n (by omega) x (by rw [if_pos (by omega)]; simpa using hx)

end Go.Proofs.YtjmiaakfdclfjaaGreatDoor.Nt
/-
  The walk of the reference's order: which of two numbers in digits is greater.
-/
namespace Go.Proofs.YtjmiaakfdclfjaaGreatDoor.Nt
open Go.RowKit

def maxN (a b : Nat) : Nat := if a < b then b else a
set_option maxHeartbeats 1000000 in
theorem order_any {w : World} (v u : Value) (xs ys : List Int) (h : Sl .u64 w v xs) (h' : Sl .u64 w u ys) (ux : D.U16s xs) (uy : D.U16s ys) (hl : xs.length ≤ 1073741824) (hl' : ys.length ≤ 1073741824) (c : Int) (hc : cmpI (D.val xs) (D.val ys) = c) :
    Calls Tryz.prog 92 #[v, u] w fun e w' => e = .returned (.int .i64 c) ∧ w = w' := by
  obtain ⟨a, cp, hv, _⟩ := h.len
  obtain ⟨a', cp', hv', _⟩ := h'.len
  subst hv; subst hv'
  obtain ⟨n, hn⟩ : ∃ n, maxN xs.length ys.length = n := ⟨_, rfl⟩
  have hn1 : xs.length ≤ n := by rw [← hn]; unfold maxN; split <;> omega
  have hn2 : ys.length ≤ n := by rw [← hn]; unfold maxN; split <;> omega
  have HC : Hid (cmpI (D.val xs) (D.val ys) = c) := hc
  clear hc
  by_cases hlt : xs.length < ys.length
  · have e1 : n = ys.length := by rw [← hn]; unfold maxN; rw [if_pos hlt]
    clear hn
    subst e1
    go_enter Tryz.func92, Tryz.ntmps92
    go_wp2
    go_loop [6] (fun i => ∃ k : Nat, k ≤ ys.length ∧ i = .int .i64 ((k : Int) - 1) ∧ ∀ j, k ≤ j → xs.getD j 0 = ys.getD j 0) (fun i => (intOf i + 1).toNat)
    case atStart => exact ⟨ys.length, Nat.le_refl _, by go_num, fun j h1 => by rw [List.getD, List.getD, List.getElem?_eq_none (by omega), List.getElem?_eq_none (by omega)]⟩
    case round =>
      obtain ⟨k, hk, rfl, hz⟩ := hrel
      cases k with
      | zero =>
        have HE : Hid (c = 0) := by
          have h1 := D.val_ext xs ys (fun j => hz j (Nat.zero_le _)); have h2 := HC.out
          unfold cmpI at h2; rw [if_neg (by omega), if_neg (by omega)] at h2; exact h2.symm
        clear hz
        simp only [Int.ofNat_zero, Int.zero_sub]
        go_wp2
        go_ret
        exact ⟨by rw [HE.out]; rfl, rfl⟩
      | succ m =>
        have em : (((m + 1 : Nat) : Int) - 1) = (m : Int) := by omega
        rw [em]
        clear em
        obtain ⟨x, hx⟩ : ∃ x, xs.getD m 0 = x := ⟨_, rfl⟩
        obtain ⟨y, hy⟩ : ∃ y, ys.getD m 0 = y := ⟨_, rfl⟩
        have HZ : Hid (∀ j, m + 1 ≤ j → xs.getD j 0 = ys.getD j 0) := hz
        have HX : Hid (xs.getD m 0 = x) := hx
        have HY : Hid (ys.getD m 0 = y) := hy
        have HT : Hid (x < y → c = -1) := fun hlt => by
          have h1 := D.val_lt_of m xs ys ux uy (fun j hj => hz j (by omega)) (by rw [hx, hy]; exact hlt)
          have h2 := HC.out; unfold cmpI at h2; rw [if_pos h1] at h2; exact h2.symm
        have HG : Hid (y < x → c = 1) := fun hlt => by
          have h1 := D.val_lt_of m ys xs uy ux (fun j hj => (hz j (by omega)).symm) (by rw [hx, hy]; exact hlt)
          have h2 := HC.out; unfold cmpI at h2; rw [if_neg (by omega), if_pos h1] at h2; exact h2.symm
        clear hz hx hy
        have hd1 := digit_nat _ xs h (by omega) m (by omega) x HX.out
        have hd2 := digit_nat _ ys h' (by omega) m (by omega) y HY.out
        by_cases hxy : x < y
        · have hE : c = -1 := HT.out hxy
          subst hE
          go_wp2_with (first
            | (go_at_call 75; replace hdone := hdone; refine (hd2).mono ?_; rintro e w' ⟨rfl, rfl⟩; clear hdone)
            | (go_at_call 75; refine (hd1).mono ?_; rintro e w' ⟨rfl, rfl⟩; have hdone := trivial))
          go_ret
          exact ⟨rfl, rfl⟩
        by_cases hyx : y < x
        · have hE : c = 1 := HG.out hyx
          subst hE
          go_wp2_with (first
            | (go_at_call 75; replace hdone := hdone; refine (hd2).mono ?_; rintro e w' ⟨rfl, rfl⟩; clear hdone)
            | (go_at_call 75; refine (hd1).mono ?_; rintro e w' ⟨rfl, rfl⟩; have hdone := trivial))
          go_ret
          exact ⟨rfl, rfl⟩
        · go_wp2_with (first
            | (go_at_call 75; replace hdone := hdone; refine (hd2).mono ?_; rintro e w' ⟨rfl, rfl⟩; clear hdone)
            | (go_at_call 75; refine (hd1).mono ?_; rintro e w' ⟨rfl, rfl⟩; have hdone := trivial))
          go_round
          case rel => exact ⟨m, by omega, by go_num, fun j h1 => by
            by_cases h3 : j = m
            · subst h3; rw [HX.out, HY.out]; omega
            · exact HZ.out j (by omega)⟩
          case measure => simp [intOf]
  · have e1 : n = xs.length := by rw [← hn]; unfold maxN; rw [if_neg hlt]
    clear hn
    subst e1
    go_enter Tryz.func92, Tryz.ntmps92
    go_wp2
    go_loop [6] (fun i => ∃ k : Nat, k ≤ xs.length ∧ i = .int .i64 ((k : Int) - 1) ∧ ∀ j, k ≤ j → xs.getD j 0 = ys.getD j 0) (fun i => (intOf i + 1).toNat)
    case atStart => exact ⟨xs.length, Nat.le_refl _, by go_num, fun j h1 => by rw [List.getD, List.getD, List.getElem?_eq_none (by omega), List.getElem?_eq_none (by omega)]⟩
    case round =>
      obtain ⟨k, hk, rfl, hz⟩ := hrel
      cases k with
      | zero =>
        have HE : Hid (c = 0) := by
          have h1 := D.val_ext xs ys (fun j => hz j (Nat.zero_le _)); have h2 := HC.out
          unfold cmpI at h2; rw [if_neg (by omega), if_neg (by omega)] at h2; exact h2.symm
        clear hz
        simp only [Int.ofNat_zero, Int.zero_sub]
        go_wp2
        go_ret
        exact ⟨by rw [HE.out]; rfl, rfl⟩
      | succ m =>
        have em : (((m + 1 : Nat) : Int) - 1) = (m : Int) := by omega
        rw [em]
        clear em
        obtain ⟨x, hx⟩ : ∃ x, xs.getD m 0 = x := ⟨_, rfl⟩
        obtain ⟨y, hy⟩ : ∃ y, ys.getD m 0 = y := ⟨_, rfl⟩
        have HZ : Hid (∀ j, m + 1 ≤ j → xs.getD j 0 = ys.getD j 0) := hz
        have HX : Hid (xs.getD m 0 = x) := hx
        have HY : Hid (ys.getD m 0 = y) := hy
        have HT : Hid (x < y → c = -1) := fun hlt => by
          have h1 := D.val_lt_of m xs ys ux uy (fun j hj => hz j (by omega)) (by rw [hx, hy]; exact hlt)
          have h2 := HC.out; unfold cmpI at h2; rw [if_pos h1] at h2; exact h2.symm
        have HG : Hid (y < x → c = 1) := fun hlt => by
          have h1 := D.val_lt_of m ys xs uy ux (fun j hj => (hz j (by omega)).symm) (by rw [hx, hy]; exact hlt)
          have h2 := HC.out; unfold cmpI at h2; rw [if_neg (by omega), if_pos h1] at h2; exact h2.symm
        clear hz hx hy
        have hd1 := digit_nat _ xs h (by omega) m (by omega) x HX.out
        have hd2 := digit_nat _ ys h' (by omega) m (by omega) y HY.out
        by_cases hxy : x < y
        · have hE : c = -1 := HT.out hxy
          subst hE
          go_wp2_with (first
            | (go_at_call 75; replace hdone := hdone; refine (hd2).mono ?_; rintro e w' ⟨rfl, rfl⟩; clear hdone)
            | (go_at_call 75; refine (hd1).mono ?_; rintro e w' ⟨rfl, rfl⟩; have hdone := trivial))
          go_ret
          exact ⟨rfl, rfl⟩
        by_cases hyx : y < x
        · have hE : c = 1 := HG.out hyx
          subst hE
          go_wp2_with (first
            | (go_at_call 75; replace hdone := hdone; refine (hd2).mono ?_; rintro e w' ⟨rfl, rfl⟩; clear hdone)
            | (go_at_call 75; refine (hd1).mono ?_; rintro e w' ⟨rfl, rfl⟩; have hdone := trivial))
          go_ret
          exact ⟨rfl, rfl⟩
        · go_wp2_with (first
            | (go_at_call 75; replace hdone := hdone; refine (hd2).mono ?_; rintro e w' ⟨rfl, rfl⟩; clear hdone)
            | (go_at_call 75; refine (hd1).mono ?_; rintro e w' ⟨rfl, rfl⟩; have hdone := trivial))
          go_round
          case rel => exact ⟨m, by omega, by go_num, fun j h1 => by
            by_cases h3 : j = m
            · subst h3; rw [HX.out, HY.out]; omega
            · exact HZ.out j (by omega)⟩
          case measure => simp [intOf]
end Go.Proofs.YtjmiaakfdclfjaaGreatDoor.Nt
/-
  The walks of the reference's Digits and Limbs.
-/
namespace Go.Proofs.YtjmiaakfdclfjaaGreatDoor.Nt
open Go.RowKit

theorem Tryz.info64 : (Tryz.prog.info? 43).map (fun i => (i.zero, i.size, i.bytes)) = some (some (.int .u64 0), 1, 8) := by kernel_rfl
theorem Tryz.und64 : Tryz.prog.underlying 73 = some (.slice 43) := by kernel_rfl
theorem and16 (x : Int) (h0 : 0 ≤ x) (h1 : x < 4294967296) : bits BinOp.and .u32 x 65535 = x % 65536 := by go_bits2
theorem _root_.Go.Proofs.YtjmiaakfdclfjaaGreatDoor.Arr.sl64 {w : World} {b : Nat} {S : List Int} (h : Arr .u64 43 w b S) : Sl .u64 w (.slice (some ⟨b, 0, none⟩) S.length S.length) S :=
  ⟨_, _, rfl, Nat.le_refl _, .inr ⟨b, 0, rfl, h.lt, by have := h.rd 0 S.length (by omega); rw [List.drop_zero, List.take_length] at this; exact this⟩⟩
/-- New memory in digits: a result. -/
abbrev Dg (w w' : World) (v : Value) (N : Int) : Prop := Sl .u64 w' v (D.lim N.toNat) ∧ Below w.heap.size w w'

set_option maxHeartbeats 2000000 in
theorem Digits_any {w : World} (v : Value) (X : List Int) (hX : Sl .u32 w v X) (uX : U32s X) (hl : X.length ≤ 8796093022208) (N : Int) (hN : val X = N) :
    Calls Tryz.prog 43 #[v] w fun e w' => ∃ r, e = .returned r ∧ Sl .u64 w' r (D.lim N.toNat) ∧ Below w.heap.size w w' := by
  have hX0 := hX
  obtain ⟨a, c, hv, hc⟩ := hX.len
  subst hv
  have HN : Hid (val X = N) := hN
  clear hN
  go_enter Tryz.func43, Tryz.ntmps43
  go_wp2
  go_loopw [3, 4] (fun o i wr => ∃ k : Nat, k ≤ X.length ∧ i = .int .i64 k ∧ Row .u64 43 w.heap.size wr o (split (X.take k)) ∧ Below w.heap.size w wr) (fun _ i _ => X.length - (intOf i).toNat)
  case atStart => exact ⟨0, by omega, rfl, Row.nil _ _ _ _, Below.refl _ _⟩
  case round =>
    obtain ⟨k, hk, rfl, hrow, hBt⟩ := hrel
    by_cases hlt : k < X.length
    · obtain ⟨x, hx⟩ : ∃ x, X.getD k 0 = x := ⟨_, rfl⟩
      have ux : U32 x := hx ▸ uX.at k
      obtain ⟨ux1, ux2⟩ := ux
      obtain ⟨b, off, ha, hb, hr⟩ : ∃ b off, a = some ⟨b, off, none⟩ ∧ b < w.heap.size ∧ Rd .u32 w b off X := by
        obtain ⟨a', c', h1, _, h2⟩ := hX0
        cases h1
        rcases h2 with rfl | ⟨b, off, rfl, hb, hr⟩
        · simp at hlt
        · exact ⟨b, off, rfl, hb, hr⟩
      subst ha
      have hcx : wr.cell? ⟨b, off + k, none⟩ = some (.int .u32 x) := by rw [hBt.cell hb, hr k hlt, hx]
      have e1 := and16 x ux1 ux2
      have hw1 : IntKind.u64.wrap (x % 65536) = x % 65536 := by rw [IntKind.wrap_u64]; omega
      have hw2 : IntKind.u64.wrap (x / 65536) = x / 65536 := by rw [IntKind.wrap_u64]; omega
      have HH : Hid (X.getD k 0 = x ∧ Below w.heap.size w wr) := ⟨hx, hBt⟩
      have hsz : w.heap.size ≤ wr.heap.size := hBt.size
      have hlen : (split (X.take k)).length = 2 * k := by rw [split_length]; simp; omega
      have HL : Hid ((split (X.take k)).length = 2 * k) := hlen
      have hk0 : (0 : Int) ≤ (k : Int) := by omega
      have hkl : (k : Int) < (X.length : Int) := by omega
      clear hx hr hX hX0 hBt hlen
      go_wp2
      go_region_held3 (fun w' => w'.cell? ⟨b, off + k, none⟩ = some (.int .u32 x)) (first | go_keep | (rw [hB1.cell hb]; go_keep))
        ((refine step_ap (by rfl) (.tmp 11) (.tmp 24) 73 73 (by rfl) .u64 43 8 Tryz.und64 Tryz.info64 (by decide) w.heap.size _ (split (X.take k)) (by rfl) (Row.alloc (by assumption) _) _ [x % 65536, x / 65536] (by rfl) (src_sl Tryz.und64 (Arr.sl64 (S := [x % 65536, x / 65536]) (arr_new rfl rfl))) (by rw [HL.out]; show (2 * k + 2) * 8 ≤ _; omega) (by simp; omega) ?_; intro v1 w1 hr1 hg1; have hB1 := hg1.below (Row.alloc (by assumption) _) (by simp; omega)))
      all_goals go_wp2
      go_roundw
      case rel =>
        obtain ⟨hx, hBt⟩ := HH.out
        refine ⟨k + 1, by omega, by go_num, ?_, (al hBt).drew.trans hB1⟩
        rw [split_snoc X hlt, hx]; exact hr1
      case measure => simp [intOf]; omega
    · have hfull : X.take k = X := List.take_of_length_le (by omega)
      rw [hfull] at hrow
      have hs := hrow.sl
      clear hfull hX hX0 hrow
      go_wp2_with (go_at_call 67; refine (plain_sl _ (split X) hs (split_u16 uX) (by rw [split_length]; omega) N (by rw [split_val]; exact HN.out)).mono ?_; rintro e w' ⟨r, rfl, hr, rfl⟩)
      go_ret
      exact ⟨r, rfl, hr, hBt⟩

set_option maxHeartbeats 2000000 in
theorem Limbs_any {w : World} (v : Value) (Ds : List Int) (hD : Sl .u64 w v Ds) (uD : D.U16s Ds) (hl : Ds.length ≤ 1073741824) (N : Int) (hN : D.val Ds = N) :
    Calls Tryz.prog 68 #[v] w fun e w' => ∃ r, e = .returned r ∧ Sl .u32 w' r (lim N.toNat) ∧ Below w.heap.size w w' := by
  have hN0 : 0 ≤ N := hN ▸ D.val_nonneg uD
  have hL : (D.lim N.toNat).length ≤ 1073741824 := by
    have h1 := D.take_sig_lim uD; have h2 := D.sig_le Ds
    rw [hN] at h1; rw [← h1]; simp; omega
  obtain ⟨Es, hE⟩ : ∃ Es, D.lim N.toNat = Es := ⟨_, rfl⟩
  have HE : Hid (D.lim N.toNat = Es) := hE
  have uE : D.U16s Es := hE ▸ D.lim_u16 _
  have HN : Hid (D.val Ds = N) := hN
  rw [hE] at hL
  clear hE hN
  go_enter Tryz.func68, Tryz.ntmps68
  go_wp2_with (go_at_call 67; refine (plain_sl _ Ds hD uD (by omega) N HN.out).mono ?_; rintro e w' ⟨r, rfl, hr, rfl⟩; rw [HE.out] at hr; obtain ⟨a, c, hv, hc⟩ := hr.len; subst hv)
  go_loopw [3, 4] (fun o i wr => ∃ j : Nat, j % 2 = 0 ∧ j ≤ Es.length + 1 ∧ i = .int .i64 j ∧ Row .u32 38 w.heap.size wr o (join (Es.take j)) ∧ Below w.heap.size w wr) (fun _ i _ => Es.length + 1 - (intOf i).toNat)
  case atStart => exact ⟨0, rfl, by omega, rfl, Row.nil _ _ _ _, Below.refl _ _⟩
  case round =>
    obtain ⟨j, hj2, hj, rfl, hrow, hBt⟩ := hrel
    by_cases hlt : j < Es.length
    · obtain ⟨y, hy⟩ : ∃ y, Es.getD j 0 = y := ⟨_, rfl⟩
      obtain ⟨z, hz⟩ : ∃ z, Es.getD (j + 1) 0 = z := ⟨_, rfl⟩
      have uy : D.U16 y := hy ▸ uE.at j
      have uz : D.U16 z := hz ▸ uE.at (j + 1)
      obtain ⟨uy1, uy2⟩ := uy
      obtain ⟨uz1, uz2⟩ := uz
      obtain ⟨b, off, ha, hb, hrd⟩ : ∃ b off, a = some ⟨b, off, none⟩ ∧ b < w.heap.size ∧ Rd .u64 w b off Es := by
        obtain ⟨a', c', h1, _, h2⟩ := hr
        cases h1
        rcases h2 with rfl | ⟨b, off, rfl, hb, hr⟩
        · simp at hlt
        · exact ⟨b, off, rfl, hb, hr⟩
      subst ha
      have hcy : wr.cell? ⟨b, off + j, none⟩ = some (.int .u64 y) := by rw [hBt.cell hb, hrd j hlt, hy]
      have hsz : w.heap.size ≤ wr.heap.size := hBt.size
      have hlen : (join (Es.take j)).length ≤ j := by have := join_length_le _ (Es.take j) (Nat.le_refl _); simp at this; omega
      have HL : Hid ((join (Es.take j)).length ≤ j) := hlen
      have hsn : join (Es.take (j + 2)) = join (Es.take j) ++ [y + 65536 * z] := by
        have := join_snoc (j / 2) Es (by omega)
        rw [show 2 * (j / 2 + 1) = j + 2 by omega, show 2 * (j / 2) = j by omega, hy, hz] at this; exact this
      have HH : Hid (join (Es.take (j + 2)) = join (Es.take j) ++ [y + 65536 * z] ∧ Below w.heap.size w wr) := ⟨hsn, hBt⟩
      by_cases hlt2 : j + 1 < Es.length
      · have hcz : wr.cell? ⟨b, off + (j + 1), none⟩ = some (.int .u64 z) := by rw [hBt.cell hb, hrd (j + 1) hlt2, hz]
        clear hy hz hrd hsn hr hBt hlen
        go_wp2_with (at_builtin; refine wpList_ap rfl (.tmp 33) (.tmp 35) 24 24 rfl .u32 38 4 Tryz.und32 Tryz.info32 (by decide) w.heap.size _ (join (Es.take j)) (by rfl) (hrow.alloc _) _ [y + 65536 * z] (by rfl) (src_sl Tryz.und32 (Arr.sl (S := [y + 65536 * z]) (arr_new rfl (by simp; omega)))) (by have := HL.out; simp only [List.length_singleton]; omega) (by simp; omega) ?_; intro v1 w1 hr1 hg1; have hB1 := hg1.below (hrow.alloc _) (by simp; omega))
        go_roundw
        case rel => exact ⟨j + 2, by omega, by omega, by go_num, by rw [HH.out.1]; exact hr1, (al HH.out.2).trans hB1⟩
        case measure => simp [intOf]; omega
      · have hz0 : z = 0 := by rw [← hz]; simp [List.getD, List.getElem?_eq_none (show Es.length ≤ j + 1 by omega)]
        subst hz0
        clear hy hz hrd hsn hr hBt hlen
        go_wp2_with (at_builtin; refine wpList_ap rfl (.tmp 33) (.tmp 35) 24 24 rfl .u32 38 4 Tryz.und32 Tryz.info32 (by decide) w.heap.size _ (join (Es.take j)) (by rfl) (hrow.alloc _) _ [y + 65536 * 0] (by rfl) (src_sl Tryz.und32 (Arr.sl (S := [y + 65536 * 0]) (arr_new rfl (by simp)))) (by have := HL.out; simp only [List.length_singleton]; omega) (by simp; omega) ?_; intro v1 w1 hr1 hg1; have hB1 := hg1.below (hrow.alloc _) (by simp; omega))
        go_roundw
        case rel => exact ⟨j + 2, by omega, by omega, by go_num, by rw [HH.out.1]; exact hr1, (al HH.out.2).trans hB1⟩
        case measure => simp [intOf]; omega
    · have hfull : Es.take j = Es := List.take_of_length_le (by omega)
      rw [hfull] at hrow
      have hs := hrow.sl
      rw [← HE.out, join_lim] at hs
      obtain ⟨a', c', hv, _⟩ := hs.len
      subst hv
      clear hfull hrow hr
      go_wp2
      go_ret
      exact ⟨_, rfl, hs, hBt⟩
end Go.Proofs.YtjmiaakfdclfjaaGreatDoor.Nt
