/-
  Policy: counts; what is granted; whether any policy counts.
-/
import Derived.Test.YtkjdihikcgpababDoorK10
namespace Go.Proofs.YtkjdihikcgpababDoor
open Go.RowKit Go.Sort Go.Lib
theorem oneLess_any {w : World} (n : Int) (h0 : -9223372036854775808 ≤ n) (h1 : n ≤ 9223372036854775807) : Calls Tryd.prog 17 #[.int .i64 n] w fun e w' => e = .returned (.int .i64 (less n)) ∧ w = w' := by
  by_cases h : 0 < n
  · have e1 : ¬ n ≤ 0 := by omega
    have HL : Hid (less n = n - 1) := if_pos h
    go_enter Tryd.func17, Tryd.ntmps17
    go_wp2
    go_ret
    exact ⟨by rw [HL.out]; go_num, rfl⟩
  · have HL : Hid (less n = n) := if_neg h
    go_enter Tryd.func17, Tryd.ntmps17
    go_wp2
    go_ret
    exact ⟨by rw [HL.out]; exact rfl, rfl⟩
theorem bounded_any {w : World} (n b : Int) : Calls Tryd.prog 18 #[.int .i64 n, .int .i64 b] w fun e w' => e = .returned (.int .i64 (bnd n b)) ∧ w = w' := by
  by_cases h : 0 ≤ b
  · by_cases h2 : b < n
    · have HL : Hid (bnd n b = b) := if_pos ⟨h, h2⟩
      go_enter Tryd.func18, Tryd.ntmps18
      go_wp2
      go_ret
      exact ⟨by rw [HL.out]; exact rfl, rfl⟩
    · have HL : Hid (bnd n b = n) := if_neg (fun e => h2 e.2)
      go_enter Tryd.func18, Tryd.ntmps18
      go_wp2
      go_ret
      exact ⟨by rw [HL.out]; exact rfl, rfl⟩
  · have HL : Hid (bnd n b = n) := if_neg (fun e => h e.1)
    go_enter Tryd.func18, Tryd.ntmps18
    go_wp2
    go_ret
    exact ⟨by rw [HL.out]; exact rfl, rfl⟩
set_option maxRecDepth 20000 in
set_option maxHeartbeats 4000000 in
theorem granted_any {w : World} (v u : Value) (S U : List Tx) (hv : TxS w v S) (hu : TxS w u U) (hS : S.length ≤ 1048576) (hU : U.length ≤ 1048576) :
    Calls Tryd.prog 19 #[v, u] w fun e w' => ∃ r, e = .returned r ∧ TxS w' r (grant S U) ∧ Below w.heap.size w w' := by
  have HS1 : Hid (∀ w1 : World, Below w.heap.size w w1 → Calls Tryd.prog 24 #[v] w1 fun e w' => ∃ r, e = .returned r ∧ TxS w' r (srt S) ∧ Below w1.heap.size w1 w') := fun w1 h => sorted_any v S (hv.below h) hS
  have HSet : Hid (∀ w1 : World, Below w.heap.size w w1 → Calls Tryd.prog 20 #[u] w1 fun e w' => e = .returned (.map (some w1.heap.size)) ∧ SetM w' w1.heap.size U.length U ∧ Below w1.heap.size w1 w') := fun w1 h => setOf_any u U (hu.below h) hU
  have HSetS : Hid (∀ w1 : World, Below w.heap.size w w1 → Calls Tryd.prog 20 #[v] w1 fun e w' => e = .returned (.map (some w1.heap.size)) ∧ SetM w' w1.heap.size S.length S ∧ Below w1.heap.size w1 w') := fun w1 h => setOf_any v S (hv.below h) hS
  have HHas : Hid (∀ (w1 : World) (b m : Nat), SetM w1 b m U → Calls Tryd.prog 22 #[.map (some b), encStr anyP] w1 fun e w' => e = .returned (.bool (decide (anyP ∈ U))) ∧ Below w1.heap.size w1 w') := fun w1 b m h => has_any b m U anyP h (by unfold anyP maxLen; decide)
  have HAdm : Hid (∀ (w1 : World) (b m : Nat), Below w.heap.size w w1 → SetM w1 b m S → Calls Tryd.prog 21 #[.map (some b), u] w1 fun e w' => ∃ r, e = .returned r ∧ VRow 9 w1.heap.size w' r ((adm S U).map encStr) ∧ Below w1.heap.size w1 w') := fun w1 b m h hs => admitted_any b m S U u hs (hu.below h) hU
  have HSA : Hid (∀ (w1 : World) (r : Value) (B : Nat), VRow 9 B w1 r ((adm S U).map encStr) → Calls Tryd.prog 24 #[r] w1 fun e w' => ∃ r', e = .returned r' ∧ TxS w' r' (srt (adm S U)) ∧ Below w1.heap.size w1 w') := fun w1 r B h => sorted_any r (adm S U) (h.tx (fun s hs => hu.2 s ((mem_adm S U s).1 hs).1)) (Nat.le_trans (adm_len S U) hU)
  obtain ⟨a, c, rfl, hc⟩ := hu.form
  obtain ⟨n, hn⟩ : ∃ n, U.length = n := ⟨_, rfl⟩
  rw [hn] at HSet HAdm hU hc ⊢
  have Hn : Hid (U.length = n) := hn
  have HB : Hid (Below w.heap.size w w) := Below.refl _ _
  clear hv hu hn
  by_cases h0 : n = 0
  · subst h0
    have HG : Hid (grant S U = srt S) := by
      have : U = [] := List.eq_nil_of_length_eq_zero Hn.out
      exact if_pos (.inl this)
    go_enter Tryd.func19, Tryd.ntmps19
    go_wp2_with (first
      | (go_at_call 24; refine (HS1.out _ HB.out).mono ?_; rintro e w1 ⟨r, rfl, hr, hb1⟩)
      | go_in)
    go_ret
    exact ⟨_, rfl, by rw [HG.out]; exact hr, hb1⟩
  · have hne : (n : Int) ≠ 0 := by omega
    have hneb : ((n : Int) == 0) = false := by simpa using h0
    by_cases hm : anyP ∈ U
    · have HG : Hid (grant S U = srt S) := if_pos (.inr hm)
      have hd : decide (anyP ∈ U) = true := decide_eq_true hm
      clear hm
      go_enter Tryd.func19, Tryd.ntmps19
      go_wp2_with (first
        | (go_at_call 20; refine (HSet.out _ HB.out).mono ?_; rintro e w1 ⟨rfl, hs1, hb1⟩)
        | (go_at_call 22; refine (HHas.out _ _ _ hs1).mono ?_; rintro e w2 ⟨rfl, hb2⟩; rw [hd])
        | (go_at_call 24; refine (HS1.out _ (hb1.trans (hb2.mono hb1.size))).mono ?_; rintro e w3 ⟨r, rfl, hr, hb3⟩)
        | go_in)
      go_ret
      exact ⟨_, rfl, by rw [HG.out]; exact hr, (hb1.trans (hb2.mono hb1.size)).trans (hb3.mono (hb1.trans (hb2.mono hb1.size)).size)⟩
    · have HG : Hid (grant S U = srt (adm S U)) := if_neg (by
        rintro (h | h)
        · rw [h] at Hn; exact h0 Hn.out.symm
        · exact hm h)
      have hd : decide (anyP ∈ U) = false := decide_eq_false hm
      clear hm
      go_enter Tryd.func19, Tryd.ntmps19
      go_wp2_with (first
        | (go_at_call 22; refine (HHas.out _ _ _ hs1).mono ?_; rintro e w2 ⟨rfl, hb2⟩; rw [hd]; have hb12 := hb1.trans (hb2.mono hb1.size))
        | (go_at_call 20; first | (refine (HSetS.out _ hb12).mono ?_; rintro e w3 ⟨rfl, hs3, hb3⟩; have hb13 := hb12.trans (hb3.mono hb12.size)) | (refine (HSet.out _ HB.out).mono ?_; rintro e w1 ⟨rfl, hs1, hb1⟩))
        | (go_at_call 21; refine (HAdm.out _ _ _ hb13 hs3).mono ?_; rintro e w4 ⟨r4, rfl, hr4, hb4⟩; have hb14 := hb13.trans (hb4.mono hb13.size))
        | (go_at_call 24; refine (HSA.out _ _ _ hr4).mono ?_; rintro e w5 ⟨r, rfl, hr, hb5⟩)
        | go_in)
      go_ret
      exact ⟨_, rfl, by rw [HG.out]; exact hr, hb14.trans (hb5.mono hb14.size)⟩
end Go.Proofs.YtkjdihikcgpababDoor
/-
  Policy: whether any policy counts.
-/
namespace Go.Proofs.YtkjdihikcgpababDoor
open Go.RowKit Go.Sort Go.Lib
/-- Whether a certificate's names are one, as the program finds it. -/
def OwnC (w : World) (c : Value) (o : Bool) : Prop := ∀ w1 : World, Below w.heap.size w w1 → Calls Tryd.prog 16 #[c] w1 fun e w' => e = .returned (.bool o) ∧ Below w1.heap.size w1 w'
theorem wpList_load_midG {P : Program} {ops : Array Oper} {rest : List Oper} {op : Oper} {a : Act} {w : World} {Q : Exit → Act → World → Prop} (hw : Region.wanted op (yielded ops a.tmps) = true) (ty : TypeId) (x : Operand) (ho : op.op = .load ty x)
    (b o : Nat) (hx : a.eval x = .pointer (some ⟨b, o, none⟩)) (cs : List Value) (d : TypeDesc) (hc : w.rangeAt b o cs)
    (hu : P.underlying ty = some d) (hd : d.isRow = true) (hi : (P.info? ty).map (·.size) = some cs.length)
    (h : wpList P ops Q rest (a.put op.dst (.agg cs.toArray)) w) : wpList P ops Q (op :: rest) a w := by
  show if Region.wanted op (yielded ops a.tmps) = true then _ else _
  rw [if_pos hw]
  exact .inl (wp_load_mid ty x ho b o hx cs d hc hu hd hi h)
theorem szC : (Tryd.prog.info? 51).map (·.size) = some 31 := by kernel_rfl
theorem OwnC.below {w w' : World} {c : Value} {o : Bool} (h : OwnC w c o) (hb : Below w.heap.size w w') : OwnC w' c o := fun w1 h1 => h w1 (hb.trans (h1.mono hb.size))
set_option maxRecDepth 20000 in
set_option maxHeartbeats 4000000 in
theorem anyCounts_any {w : World} (u : Value) (pe pa : Int) (ci cs cp : Value) (cr ch : Int) (last o : Bool) (hO : last = false → OwnC w (.agg #[.slice none 0 0, .slice none 0 0, .slice none 0 0, ci, cs, .int .i64 0, .int .i64 0, .int .i64 0, .slice none 0 0, .slice none 0 0, .slice none 0 0, .slice none 0 0, .int .i64 0, .int .i64 0, .int .i64 0, .int .i64 0, .slice none 0 0, .bool false, .int .i64 0, .int .i64 0, .slice none 0 0, .bool false, .slice none 0 0, .slice none 0 0, .slice none 0 0, cp, .int .i64 cr, .int .i64 ch, .slice none 0 0, .slice none 0 0, .bool false]) o) :
    Calls Tryd.prog 23 #[.agg #[u, .int .i64 pe, .int .i64 pa], .agg #[.slice none 0 0, .slice none 0 0, .slice none 0 0, ci, cs, .int .i64 0, .int .i64 0, .int .i64 0, .slice none 0 0, .slice none 0 0, .slice none 0 0, .slice none 0 0, .int .i64 0, .int .i64 0, .int .i64 0, .int .i64 0, .slice none 0 0, .bool false, .int .i64 0, .int .i64 0, .slice none 0 0, .bool false, .slice none 0 0, .slice none 0 0, .slice none 0 0, cp, .int .i64 cr, .int .i64 ch, .slice none 0 0, .slice none 0 0, .bool false], .bool last] w fun e w' => e = .returned (.bool (decide (0 < pa) || (!last && o))) ∧ Below w.heap.size w w' := by
  by_cases h : 0 < pa
  · have hd : decide (0 < pa) = true := decide_eq_true h
    rw [hd]
    clear hO
    go_enter Tryd.func23, Tryd.ntmps23
    go_wp2
    go_ret
    exact ⟨rfl, ((Below.refl _ _).alloc (Nat.le_refl _) _).alloc ((Below.refl _ _).alloc (Nat.le_refl _) _).size _⟩
  · have hd : decide (0 < pa) = false := decide_eq_false h
    rw [hd]
    cases last with
    | true =>
      clear hO
      go_enter Tryd.func23, Tryd.ntmps23
      go_wp2
      go_ret
      exact ⟨rfl, ((Below.refl _ _).alloc (Nat.le_refl _) _).alloc ((Below.refl _ _).alloc (Nat.le_refl _) _).size _⟩
    | false =>
      have HO : Hid (OwnC w (.agg #[.slice none 0 0, .slice none 0 0, .slice none 0 0, ci, cs, .int .i64 0, .int .i64 0, .int .i64 0, .slice none 0 0, .slice none 0 0, .slice none 0 0, .slice none 0 0, .int .i64 0, .int .i64 0, .int .i64 0, .int .i64 0, .slice none 0 0, .bool false, .int .i64 0, .int .i64 0, .slice none 0 0, .bool false, .slice none 0 0, .slice none 0 0, .slice none 0 0, cp, .int .i64 cr, .int .i64 ch, .slice none 0 0, .slice none 0 0, .bool false]) o) := hO rfl
      have HB : Hid (∀ o1 o2 : Obj, Below w.heap.size w ((w.alloc o1).alloc o2)) := fun o1 o2 => ((Below.refl _ _).alloc (Nat.le_refl _) _).alloc ((Below.refl _ _).alloc (Nat.le_refl _) _).size _
      have HW : Hid (World.rangeAt ((w.alloc (.cells #[u, .int .i64 pe, .int .i64 pa] 36)).alloc (.cells #[.slice none 0 0, .slice none 0 0, .slice none 0 0, ci, cs, .int .i64 0, .int .i64 0, .int .i64 0, .slice none 0 0, .slice none 0 0, .slice none 0 0, .slice none 0 0, .int .i64 0, .int .i64 0, .int .i64 0, .int .i64 0, .slice none 0 0, .bool false, .int .i64 0, .int .i64 0, .slice none 0 0, .bool false, .slice none 0 0, .slice none 0 0, .slice none 0 0, cp, .int .i64 cr, .int .i64 ch, .slice none 0 0, .slice none 0 0, .bool false] 51)) (w.heap.size + 1) 0 [.slice none 0 0, .slice none 0 0, .slice none 0 0, ci, cs, .int .i64 0, .int .i64 0, .int .i64 0, .slice none 0 0, .slice none 0 0, .slice none 0 0, .slice none 0 0, .int .i64 0, .int .i64 0, .int .i64 0, .int .i64 0, .slice none 0 0, .bool false, .int .i64 0, .int .i64 0, .slice none 0 0, .bool false, .slice none 0 0, .slice none 0 0, .slice none 0 0, cp, .int .i64 cr, .int .i64 ch, .slice none 0 0, .slice none 0 0, .bool false]) := by
        have := (Blk.new 51 (w.alloc (.cells #[u, .int .i64 pe, .int .i64 pa] 36)) [.slice none 0 0, .slice none 0 0, .slice none 0 0, ci, cs, .int .i64 0, .int .i64 0, .int .i64 0, .slice none 0 0, .slice none 0 0, .slice none 0 0, .slice none 0 0, .int .i64 0, .int .i64 0, .int .i64 0, .int .i64 0, .slice none 0 0, .bool false, .int .i64 0, .int .i64 0, .slice none 0 0, .bool false, .slice none 0 0, .slice none 0 0, .slice none 0 0, cp, .int .i64 cr, .int .i64 ch, .slice none 0 0, .slice none 0 0, .bool false]).whole
        rw [show (w.alloc (.cells #[u, .int .i64 pe, .int .i64 pa] 36)).heap.size = w.heap.size + 1 by simp] at this
        exact this
      clear hO
      go_enter Tryd.func23, Tryd.ntmps23
      go_wp2_with (first
        | (refine wpList_load_midG rfl 51 (.tmp 4) rfl (w.heap.size + 1) 0 rfl [.slice none 0 0, .slice none 0 0, .slice none 0 0, ci, cs, .int .i64 0, .int .i64 0, .int .i64 0, .slice none 0 0, .slice none 0 0, .slice none 0 0, .slice none 0 0, .int .i64 0, .int .i64 0, .int .i64 0, .int .i64 0, .slice none 0 0, .bool false, .int .i64 0, .int .i64 0, .slice none 0 0, .bool false, .slice none 0 0, .slice none 0 0, .slice none 0 0, cp, .int .i64 cr, .int .i64 ch, .slice none 0 0, .slice none 0 0, .bool false] _ HW.out Tryd.underlying51 rfl szC ?_)
        | (go_at_call 16; refine (HO.out _ (HB.out _ _)).mono ?_; rintro e w1 ⟨rfl, hb1⟩)
        | go_in)
      go_ret
      exact ⟨by simp, (HB.out _ _).trans (hb1.mono (HB.out _ _).size)⟩
end Go.Proofs.YtkjdihikcgpababDoor
/-
  Policy: which policies hold below a certificate.
-/
namespace Go.Proofs.YtkjdihikcgpababDoor
open Go.RowKit Go.Sort Go.Lib
theorem eg_setOf (args : Array Value) (w : World) : (callFunc 20 args).run Tryd.prog w = .ok (.enter 20 args) w := enters_of Tryd.func20 (by kernel_rfl) rfl args w
theorem eg_admitted (args : Array Value) (w : World) : (callFunc 21 args).run Tryd.prog w = .ok (.enter 21 args) w := enters_of Tryd.func21 (by kernel_rfl) rfl args w
theorem szPo : (Tryd.prog.info? 36).map (·.size) = some 3 := by kernel_rfl
theorem frH7 {ops : Array Oper} {V : Nat → Value} {t : Array Value} {d0 d1 d2 d3 d4 d5 d6 : Nat} (hs : ops.size = 7) (h0 : dstOf ops 0 = some d0) (h1 : dstOf ops 1 = some d1) (h2 : dstOf ops 2 = some d2) (h3 : dstOf ops 3 = some d3) (h4 : dstOf ops 4 = some d4) (h5 : dstOf ops 5 = some d5) (h6 : dstOf ops 6 = some d6) : frF ops V t ops.size = (((((((t.setIfInBounds d0 (V 0)).setIfInBounds d1 (V 1)).setIfInBounds d2 (V 2)).setIfInBounds d3 (V 3)).setIfInBounds d4 (V 4)).setIfInBounds d5 (V 5)).setIfInBounds d6 (V 6)) := by
  rw [hs]
  simp only [frF, h0, h1, h2, h3, h4, h5, h6]
set_option maxRecDepth 20000 in
set_option maxHeartbeats 4000000 in
theorem held_any {w : World} (u : Value) (pe pa : Int) (ci cs cp : Value) (cr ch : Int) (last o : Bool) (S L : List Tx) (hu : TxS w u S) (hc : TxS w cp L) (hS : S.length ≤ 524288) (hL : L.length ≤ 524288) (hO : last = false → OwnC w (.agg #[.slice none 0 0, .slice none 0 0, .slice none 0 0, ci, cs, .int .i64 0, .int .i64 0, .int .i64 0, .slice none 0 0, .slice none 0 0, .slice none 0 0, .slice none 0 0, .int .i64 0, .int .i64 0, .int .i64 0, .int .i64 0, .slice none 0 0, .bool false, .int .i64 0, .int .i64 0, .slice none 0 0, .bool false, .slice none 0 0, .slice none 0 0, .slice none 0 0, cp, .int .i64 cr, .int .i64 ch, .slice none 0 0, .slice none 0 0, .bool false]) o) :
    Calls Tryd.prog 15 #[.agg #[u, .int .i64 pe, .int .i64 pa], .agg #[.slice none 0 0, .slice none 0 0, .slice none 0 0, ci, cs, .int .i64 0, .int .i64 0, .int .i64 0, .slice none 0 0, .slice none 0 0, .slice none 0 0, .slice none 0 0, .int .i64 0, .int .i64 0, .int .i64 0, .int .i64 0, .slice none 0 0, .bool false, .int .i64 0, .int .i64 0, .slice none 0 0, .bool false, .slice none 0 0, .slice none 0 0, .slice none 0 0, cp, .int .i64 cr, .int .i64 ch, .slice none 0 0, .slice none 0 0, .bool false], .bool last] w fun e w' => ∃ r, e = .returned r ∧ TxS w' r (heldS S L (decide (0 < pa) || (!last && o))) ∧ Below w.heap.size w w' := by
  obtain ⟨ok, hok⟩ : ∃ ok, (decide (0 < pa) || (!last && o)) = ok := ⟨_, rfl⟩
  rw [hok]
  have HSetS : Hid (∀ w1 : World, Below w.heap.size w w1 → Calls Tryd.prog 20 #[u] w1 fun e w' => e = .returned (.map (some w1.heap.size)) ∧ SetM w' w1.heap.size S.length S ∧ Below w1.heap.size w1 w') := fun w1 h => setOf_any u S (hu.below h) (by omega)
  have HSetL : Hid (∀ w1 : World, Below w.heap.size w w1 → Calls Tryd.prog 20 #[cp] w1 fun e w' => e = .returned (.map (some w1.heap.size)) ∧ SetM w' w1.heap.size L.length L ∧ Below w1.heap.size w1 w') := fun w1 h => setOf_any cp L (hc.below h) (by omega)
  have HHas : Hid (∀ (w1 : World) (b m : Nat), SetM w1 b m L → Calls Tryd.prog 22 #[.map (some b), encStr anyP] w1 fun e w' => e = .returned (.bool (decide (anyP ∈ L))) ∧ Below w1.heap.size w1 w') := fun w1 b m h => has_any b m L anyP h (by unfold anyP maxLen; decide)
  have HAdm : Hid (∀ (w1 : World) (b m : Nat), Below w.heap.size w w1 → SetM w1 b m S → Calls Tryd.prog 21 #[.map (some b), cp] w1 fun e w' => ∃ r, e = .returned r ∧ VRow 9 w1.heap.size w' r ((adm S L).map encStr) ∧ Below w1.heap.size w1 w') := fun w1 b m h hs => admitted_any b m S L cp hs (hc.below h) (by omega)
  have HAny : Hid (∀ w1 : World, Below w.heap.size w w1 → Calls Tryd.prog 23 #[.agg #[u, .int .i64 pe, .int .i64 pa], .agg #[.slice none 0 0, .slice none 0 0, .slice none 0 0, ci, cs, .int .i64 0, .int .i64 0, .int .i64 0, .slice none 0 0, .slice none 0 0, .slice none 0 0, .slice none 0 0, .int .i64 0, .int .i64 0, .int .i64 0, .int .i64 0, .slice none 0 0, .bool false, .int .i64 0, .int .i64 0, .slice none 0 0, .bool false, .slice none 0 0, .slice none 0 0, .slice none 0 0, cp, .int .i64 cr, .int .i64 ch, .slice none 0 0, .slice none 0 0, .bool false], .bool last] w1 fun e w' => e = .returned (.bool ok) ∧ Below w1.heap.size w1 w') := fun w1 h => by
    have := anyCounts_any (w := w1) u pe pa ci cs cp cr ch last o (fun hl => (hO hl).below h)
    rw [hok] at this
    exact this
  have HSort : Hid (∀ (w1 : World) (r : Value) (B : Nat) (l : List Tx), l.length ≤ 1048576 → (∀ s ∈ l, s.length ≤ maxLen) → VRow 9 B w1 r (l.map encStr) → Calls Tryd.prog 24 #[r] w1 fun e w' => ∃ r', e = .returned r' ∧ TxS w' r' (srt l) ∧ Below w1.heap.size w1 w') := fun w1 r B l h1 h2 h => sorted_any r l (h.tx h2) h1
  have HSz : Hid ((adm S L).length ≤ 524288 ∧ (∀ s ∈ adm S L, s.length ≤ maxLen) ∧ S.length ≤ 524288 ∧ ∀ s ∈ S, s.length ≤ maxLen) := ⟨Nat.le_trans (adm_len S L) hL, fun s hs => hc.2 s ((mem_adm S L s).1 hs).1, hS, hu.2⟩
  have HU : Hid (TxS w u S) := hu
  clear hu hc hO hok hS hL
  obtain ⟨W0, hW0⟩ : ∃ W0 : World, (w.alloc (.cells #[u, .int .i64 pe, .int .i64 pa] 36)).alloc (.cells #[.slice none 0 0, .slice none 0 0, .slice none 0 0, ci, cs, .int .i64 0, .int .i64 0, .int .i64 0, .slice none 0 0, .slice none 0 0, .slice none 0 0, .slice none 0 0, .int .i64 0, .int .i64 0, .int .i64 0, .int .i64 0, .slice none 0 0, .bool false, .int .i64 0, .int .i64 0, .slice none 0 0, .bool false, .slice none 0 0, .slice none 0 0, .slice none 0 0, cp, .int .i64 cr, .int .i64 ch, .slice none 0 0, .slice none 0 0, .bool false] 51) = W0 := ⟨_, rfl⟩
  have HW : Hid (Below w.heap.size w W0 ∧ Blk 36 W0 w.heap.size [u, .int .i64 pe, .int .i64 pa] ∧ Blk 51 W0 (w.heap.size + 1) [.slice none 0 0, .slice none 0 0, .slice none 0 0, ci, cs, .int .i64 0, .int .i64 0, .int .i64 0, .slice none 0 0, .slice none 0 0, .slice none 0 0, .slice none 0 0, .int .i64 0, .int .i64 0, .int .i64 0, .int .i64 0, .slice none 0 0, .bool false, .int .i64 0, .int .i64 0, .slice none 0 0, .bool false, .slice none 0 0, .slice none 0 0, .slice none 0 0, cp, .int .i64 cr, .int .i64 ch, .slice none 0 0, .slice none 0 0, .bool false]) := by
    rw [← hW0]
    have h1 := Blk.new 51 (w.alloc (.cells #[u, .int .i64 pe, .int .i64 pa] 36)) [.slice none 0 0, .slice none 0 0, .slice none 0 0, ci, cs, .int .i64 0, .int .i64 0, .int .i64 0, .slice none 0 0, .slice none 0 0, .slice none 0 0, .slice none 0 0, .int .i64 0, .int .i64 0, .int .i64 0, .int .i64 0, .slice none 0 0, .bool false, .int .i64 0, .int .i64 0, .slice none 0 0, .bool false, .slice none 0 0, .slice none 0 0, .slice none 0 0, cp, .int .i64 cr, .int .i64 ch, .slice none 0 0, .slice none 0 0, .bool false]
    rw [show (w.alloc (.cells #[u, .int .i64 pe, .int .i64 pa] 36)).heap.size = w.heap.size + 1 by simp] at h1
    exact ⟨((Below.refl _ _).alloc (Nat.le_refl _) _).alloc ((Below.refl _ _).alloc (Nat.le_refl _) _).size _, (Blk.new 36 w [u, .int .i64 pe, .int .i64 pa]).alloc _, h1⟩
  have HAt : Hid (∀ W : World, Below W0.heap.size W0 W → Below w.heap.size w W ∧ Blk 36 W w.heap.size [u, .int .i64 pe, .int .i64 pa] ∧ Blk 51 W (w.heap.size + 1) [.slice none 0 0, .slice none 0 0, .slice none 0 0, ci, cs, .int .i64 0, .int .i64 0, .int .i64 0, .slice none 0 0, .slice none 0 0, .slice none 0 0, .slice none 0 0, .int .i64 0, .int .i64 0, .int .i64 0, .int .i64 0, .slice none 0 0, .bool false, .int .i64 0, .int .i64 0, .slice none 0 0, .bool false, .slice none 0 0, .slice none 0 0, .slice none 0 0, cp, .int .i64 cr, .int .i64 ch, .slice none 0 0, .slice none 0 0, .bool false]) := fun W h => ⟨HW.out.1.trans (h.mono HW.out.1.size), below_blk h HW.out.2.1.lt HW.out.2.1, below_blk h HW.out.2.2.lt HW.out.2.2⟩
  go_enter Tryd.func15, Tryd.ntmps15
  go_upto_region 1 with (fail)
  refine wp_region_cl (β := Value × Value) (fun b k => ([.pointer (some ⟨w.heap.size, 0, none⟩), u, b.1, .pointer (some ⟨w.heap.size + 1, 25, none⟩), cp, b.2, b.2] : List Value).getD k undef) (fun b LB W => Below W0.heap.size W0 W ∧ (Up LB 2 → ∃ m, b.1 = .map (some m) ∧ SetM W m S.length S) ∧ (Up LB 5 → VRow 9 W0.heap.size W b.2 ((adm S L).map encStr))) (undef, undef) rfl (by decide +kernel) (show dstB _ 30 = true by decide +kernel) ⟨(Below.refl _ _).drew, fun u => absurd u not_up_new, fun u => absurd u not_up_new⟩ (fun b LB W hup hS => ?_) (fun k b LB W a hk hno hsz hdep hv h0 hcl hS => ?_)
  rotate_left
  · replace hk : k < 7 := hk
    have x3 : a.eval (.tmp 3) = .pointer (some ⟨w.heap.size, 0, none⟩) := (h0 3 (by decide +kernel)).trans rfl
    have x4 : a.eval (.tmp 4) = .pointer (some ⟨w.heap.size + 1, 0, none⟩) := (h0 4 (by decide +kernel)).trans rfl
    have eU : ∀ j q, q ≠ j → Up (LB.setIfInBounds j true) q → Up LB q := fun j q hq u => by unfold Up at u ⊢; rwa [getD_setB hq] at u
    have st : ∀ j : Nat, j ≠ 2 → j ≠ 5 → Below W0.heap.size W0 W ∧ (Up (LB.setIfInBounds j true) 2 → ∃ m, b.1 = .map (some m) ∧ SetM W m S.length S) ∧ (Up (LB.setIfInBounds j true) 5 → VRow 9 W0.heap.size W b.2 ((adm S L).map encStr)) := fun j n2 n5 => ⟨hS.1, fun u => hS.2.1 (eU j 2 (fun h => n2 h.symm) u), fun u => hS.2.2 (eU j 5 (fun h => n5 h.symm) u)⟩
    have hat := HAt.out W hS.1
    obtain rfl | rfl | rfl | rfl | rfl | rfl | rfl : k = 0 ∨ k = 1 ∨ k = 2 ∨ k = 3 ∨ k = 4 ∨ k = 5 ∨ k = 6 := by omega
    · exact rg_val rfl (wn_any rfl) (run_fa (v := .pointer (some ⟨w.heap.size, 0, none⟩)) rfl x3 (by simp [go_sem, Instr.fieldAt])) (st 0 (by decide) (by decide))
    · have e8 : a.eval (.tmp 8) = .pointer (some ⟨w.heap.size, 0, none⟩) := hv 0 _ (show 0 < 7 by decide) (hdep 0 (by decide +kernel)) rfl
      have q0 : W.cell? ⟨w.heap.size, 0, none⟩ = some u := hat.2.1.cell 0
      exact rg_val rfl (wn_any rfl) (run_ld (v := u) rfl e8 (by simp [go_sem, Instr.loadAt, q0])) (st 1 (by decide) (by decide))
    · have e9 : a.eval (.tmp 9) = u := hv 1 _ (show 1 < 7 by decide) (hdep 1 (by decide +kernel)) rfl
      refine rg_callx rfl (wn_any rfl) (run_cl1 rfl e9 eg_setOf) (R := fun v w' => v = .map (some W.heap.size) ∧ SetM w' W.heap.size S.length S ∧ Below W.heap.size W w') ((HSetS.out W hat.1).mono ?_) (fun v => (v, b.2)) (fun v => rfl) (fun v k hk => ?_) (fun v w' h => ?_)
      · rintro e w' ⟨rfl, h1, h2⟩; exact ⟨_, rfl, rfl, h1, h2⟩
      · rcases k with _ | _ | _ | _ | _ | _ | _ | k
        all_goals first | rfl | exact absurd rfl hk
      · exact ⟨below_via hS.1 h.2.2 (Nat.le_refl _), fun _ => ⟨_, h.1, h.2.1⟩, fun u => (hS.2.2 (eU 2 5 (by decide) u)).below h.2.2⟩
    · exact rg_val rfl (wn_any rfl) (run_fa (v := .pointer (some ⟨w.heap.size + 1, 25, none⟩)) rfl x4 (by simp [go_sem, Instr.fieldAt])) (st 3 (by decide) (by decide))
    · have e11 : a.eval (.tmp 11) = .pointer (some ⟨w.heap.size + 1, 25, none⟩) := hv 3 _ (show 3 < 7 by decide) (hdep 3 (by decide +kernel)) rfl
      have q0 : W.cell? ⟨w.heap.size + 1, 25, none⟩ = some cp := hat.2.2.cell 25
      exact rg_val rfl (wn_any rfl) (run_ld (v := cp) rfl e11 (by simp [go_sem, Instr.loadAt, q0])) (st 4 (by decide) (by decide))
    · have u2 : Up LB 2 := hdep 2 (by decide +kernel)
      obtain ⟨m, hm, hsm⟩ := hS.2.1 u2
      have e10 : a.eval (.tmp 10) = .map (some m) := (hv 2 _ (show 2 < 7 by decide) u2 rfl).trans hm
      have e12 : a.eval (.tmp 12) = cp := hv 4 _ (show 4 < 7 by decide) (hdep 4 (by decide +kernel)) rfl
      refine rg_callu rfl (wn_any rfl) (run_cl2 rfl e10 e12 eg_admitted) (R := fun v w' => VRow 9 W.heap.size w' v ((adm S L).map encStr) ∧ Below W.heap.size W w') ((HAdm.out W m S.length hat.1 hsm).mono ?_) (fun v => (b.1, v)) (fun v => rfl) (fun v k hk hup => ?_) (fun v w' h => ?_)
      · rintro e w' ⟨r, rfl, h1, h2⟩; exact ⟨_, rfl, h1, h2⟩
      · rcases k with _ | _ | _ | _ | _ | _ | _ | k
        all_goals first | rfl | exact absurd rfl hk | exact absurd (hcl 6 hup 5 (by decide +kernel)) hno
      · exact ⟨below_via hS.1 h.2 (Nat.le_refl _), fun _ => ⟨m, hm, owns_below hsm h.2⟩, fun _ => h.1.mono hS.1.size⟩
    · have e13 : a.eval (.tmp 13) = b.2 := hv 5 _ (show 5 < 7 by decide) (hdep 5 (by decide +kernel)) rfl
      exact rg_val rfl (wn_any rfl) (run_asg rfl e13) (st 6 (by decide) (by decide))
  rw [frH7 rfl rfl rfl rfl rfl rfl rfl rfl]
  simp only [List.setIfInBounds_toArray, List.set_cons_succ, List.set_cons_zero, List.getD_cons_zero, List.getD_cons_succ]
  have H1 : Hid (Below W0.heap.size W0 W ∧ VRow 9 W0.heap.size W b.2 ((adm S L).map encStr)) := ⟨hS.1, hS.2.2 (hup 5 (by decide))⟩
  have q25 : W.cell? ⟨w.heap.size + 1, 25, none⟩ = some cp := (HAt.out W H1.out.1).2.2.cell 25
  have h0w := (HAt.out W H1.out.1).1
  have HW1 : Hid (Below w.heap.size w W) := h0w
  obtain ⟨r0, hr0⟩ : ∃ r0, b.2 = r0 := ⟨_, rfl⟩
  rw [hr0] at H1
  rw [hr0]
  clear hS hup h0w hW0
  by_cases hm : anyP ∈ L
  · have hd : decide (anyP ∈ L) = true := decide_eq_true hm
    cases ok with
    | true =>
      have HG : Hid (heldS S L true = srt (adm S L ++ S)) := by show _ = _; unfold heldS; rw [hd]; rfl
      clear hm
      go_wp2_with (first
        | (go_at_call 20; refine (HSetL.out _ HW1.out).mono ?_; rintro e w2 ⟨rfl, hs2, hb2⟩)
        | (go_at_call 22; refine (HHas.out _ _ _ hs2).mono ?_; rintro e w3 ⟨rfl, hb3⟩; rw [hd]; have HB3 : Hid (Below W0.heap.size W0 w3 ∧ Below W.heap.size W w3) := ⟨below_via H1.out.1 (hb2.trans (hb3.mono hb2.size)) (Nat.le_refl _), hb2.trans (hb3.mono hb2.size)⟩)
        | (refine wpList_load_midG rfl 51 (.tmp 4) rfl (w.heap.size + 1) 0 rfl [.slice none 0 0, .slice none 0 0, .slice none 0 0, ci, cs, .int .i64 0, .int .i64 0, .int .i64 0, .slice none 0 0, .slice none 0 0, .slice none 0 0, .slice none 0 0, .int .i64 0, .int .i64 0, .int .i64 0, .int .i64 0, .slice none 0 0, .bool false, .int .i64 0, .int .i64 0, .slice none 0 0, .bool false, .slice none 0 0, .slice none 0 0, .slice none 0 0, cp, .int .i64 cr, .int .i64 ch, .slice none 0 0, .slice none 0 0, .bool false] _ (HAt.out _ HB3.out.1).2.2.whole Tryd.underlying51 rfl szC ?_)
        | (refine wpList_load_midG rfl 36 (.tmp 3) rfl w.heap.size 0 rfl [u, .int .i64 pe, .int .i64 pa] _ (HAt.out _ HB3.out.1).2.1.whole Tryd.underlying36 rfl szPo ?_)
        | (go_at_call 23; refine (HAny.out _ (HAt.out _ HB3.out.1).1).mono ?_; rintro e w4 ⟨rfl, hb4⟩; have HB4 : Hid (Below W0.heap.size W0 w4 ∧ VRow 9 W0.heap.size w4 r0 ((adm S L).map encStr) ∧ Below w.heap.size w w4) := ⟨below_via HB3.out.1 hb4 (Nat.le_refl _), (H1.out.2.below HB3.out.2).below hb4, (HAt.out _ (below_via HB3.out.1 hb4 (Nat.le_refl _))).1⟩; have q0 : w4.cell? ⟨w.heap.size, 0, none⟩ = some u := (HAt.out _ HB4.out.1).2.1.cell 0)
        | (at_builtin; refine wpList_apv rfl (.tmp 24) (.tmp 26) 22 22 rfl (.string ⟨#[]⟩) rfl 9 16 Tryd.undX Tryd.infoX (by decide) W0.heap.size r0 ((adm S L).map encStr) rfl HB4.out.2.1 u (S.map encStr) rfl (by have h9 := (HU.out.below HB4.out.2.2).src (t := 22) Tryd.undX; rw [List.length_map]; exact h9) (by have := HSz.out; simp; omega) HB4.out.1.size ?_; intro v' w5 hV hG)
        | (go_at_call 24; refine (HSort.out _ _ W0.heap.size (adm S L ++ S) (by have := HSz.out; simp; omega) (by intro s hs; rcases List.mem_append.1 hs with h | h; exact HSz.out.2.1 s h; exact HSz.out.2.2.2 s h) (by rw [List.map_append]; exact hV)).mono ?_; rintro e w6 ⟨r, rfl, hr, hb6⟩)
        | go_in)
      go_ret
      have hb5 := (HAt.out _ (HB4.out.1.trans (hG.below HB4.out.2.1 HB4.out.1.size))).1
      exact ⟨_, rfl, by rw [HG.out]; exact hr, hb5.trans (hb6.mono hb5.size)⟩
    | false =>
      have HG : Hid (heldS S L false = srt (adm S L)) := by show _ = _; unfold heldS; rw [Bool.and_false, if_neg (by simp), List.append_nil]
      clear hm
      go_wp2_with (first
        | (go_at_call 20; refine (HSetL.out _ HW1.out).mono ?_; rintro e w2 ⟨rfl, hs2, hb2⟩)
        | (go_at_call 22; refine (HHas.out _ _ _ hs2).mono ?_; rintro e w3 ⟨rfl, hb3⟩; rw [hd]; have HB3 : Hid (Below W0.heap.size W0 w3 ∧ Below W.heap.size W w3) := ⟨below_via H1.out.1 (hb2.trans (hb3.mono hb2.size)) (Nat.le_refl _), hb2.trans (hb3.mono hb2.size)⟩)
        | (refine wpList_load_midG rfl 51 (.tmp 4) rfl (w.heap.size + 1) 0 rfl [.slice none 0 0, .slice none 0 0, .slice none 0 0, ci, cs, .int .i64 0, .int .i64 0, .int .i64 0, .slice none 0 0, .slice none 0 0, .slice none 0 0, .slice none 0 0, .int .i64 0, .int .i64 0, .int .i64 0, .int .i64 0, .slice none 0 0, .bool false, .int .i64 0, .int .i64 0, .slice none 0 0, .bool false, .slice none 0 0, .slice none 0 0, .slice none 0 0, cp, .int .i64 cr, .int .i64 ch, .slice none 0 0, .slice none 0 0, .bool false] _ (HAt.out _ HB3.out.1).2.2.whole Tryd.underlying51 rfl szC ?_)
        | (refine wpList_load_midG rfl 36 (.tmp 3) rfl w.heap.size 0 rfl [u, .int .i64 pe, .int .i64 pa] _ (HAt.out _ HB3.out.1).2.1.whole Tryd.underlying36 rfl szPo ?_)
        | (go_at_call 23; refine (HAny.out _ (HAt.out _ HB3.out.1).1).mono ?_; rintro e w4 ⟨rfl, hb4⟩; have HB4 : Hid (Below W0.heap.size W0 w4 ∧ VRow 9 W0.heap.size w4 r0 ((adm S L).map encStr) ∧ Below w.heap.size w w4) := ⟨below_via HB3.out.1 hb4 (Nat.le_refl _), (H1.out.2.below HB3.out.2).below hb4, (HAt.out _ (below_via HB3.out.1 hb4 (Nat.le_refl _))).1⟩)
        | (go_at_call 24; refine (HSort.out _ _ W0.heap.size (adm S L) (by have := HSz.out; omega) HSz.out.2.1 HB4.out.2.1).mono ?_; rintro e w6 ⟨r, rfl, hr, hb6⟩)
        | go_in)
      go_ret
      exact ⟨_, rfl, by rw [HG.out]; exact hr, HB4.out.2.2.trans (hb6.mono HB4.out.2.2.size)⟩
  · have hd : decide (anyP ∈ L) = false := decide_eq_false hm
    have HG : Hid (heldS S L ok = srt (adm S L)) := by show _ = _; unfold heldS; rw [hd, Bool.false_and, if_neg (by simp), List.append_nil]
    clear hm
    go_wp2_with (first
      | (go_at_call 20; refine (HSetL.out _ HW1.out).mono ?_; rintro e w2 ⟨rfl, hs2, hb2⟩)
      | (go_at_call 22; refine (HHas.out _ _ _ hs2).mono ?_; rintro e w3 ⟨rfl, hb3⟩; rw [hd]; have HB4 : Hid (Below W0.heap.size W0 w3 ∧ VRow 9 W0.heap.size w3 r0 ((adm S L).map encStr) ∧ Below w.heap.size w w3) := ⟨below_via H1.out.1 (hb2.trans (hb3.mono hb2.size)) (Nat.le_refl _), (H1.out.2.below hb2).below hb3, (HAt.out _ (below_via H1.out.1 (hb2.trans (hb3.mono hb2.size)) (Nat.le_refl _))).1⟩)
      | (go_at_call 24; refine (HSort.out _ _ W0.heap.size (adm S L) (by have := HSz.out; omega) HSz.out.2.1 HB4.out.2.1).mono ?_; rintro e w6 ⟨r, rfl, hr, hb6⟩)
      | go_in)
    go_ret
    exact ⟨_, rfl, by rw [HG.out]; exact hr, HB4.out.2.2.trans (hb6.mono HB4.out.2.2.size)⟩
end Go.Proofs.YtkjdihikcgpababDoor
/-
  Policy: what is there ahead of the first one.
-/
namespace Go.Proofs.YtkjdihikcgpababDoor
open Go.RowKit Go.Sort Go.Lib
theorem al3 (w : World) (o1 o2 o3 : Obj) : Below w.heap.size w (((w.alloc o1).alloc o2).alloc o3) :=
  have h1 := (Below.refl w.heap.size w).alloc (Nat.le_refl _) o1
  have h2 := h1.alloc h1.size o2
  h2.alloc h2.size o3
theorem anyS {W : World} {b : Nat} (hA : Blk 9 W b [encStr anyP]) : TxS W (.slice (some ⟨b, 0, none⟩) 1 1) [anyP] :=
  TxS.ofBlk hA 1 1 rfl (Nat.le_refl _) rfl (by simp [anyP, maxLen])
theorem start_world (w : World) (c1 c3 : List Value) : Blk 36 (((w.alloc (.cells c1.toArray 36)).alloc (.cells #[encStr anyP] 9)).alloc (.cells c3.toArray 36)) w.heap.size c1 ∧ TxS (((w.alloc (.cells c1.toArray 36)).alloc (.cells #[encStr anyP] 9)).alloc (.cells c3.toArray 36)) (.slice (some ⟨w.heap.size + 1, 0, none⟩) 1 1) [anyP] := by
  have h2 := Blk.new 9 (w.alloc (.cells c1.toArray 36)) [encStr anyP]
  rw [show (w.alloc (.cells c1.toArray 36)).heap.size = w.heap.size + 1 by simp] at h2
  exact ⟨((Blk.new 36 w c1).alloc _).alloc _, anyS (h2.alloc _)⟩
set_option maxRecDepth 20000 in
set_option maxHeartbeats 4000000 in
theorem Start_any {w : World} (n : Int) (ex inh : Bool) (h0 : -9223372036854775808 ≤ n) (h1 : n ≤ 9223372036854775807) :
    Calls Tryd.prog 10 #[.int .i64 n, .bool ex, .bool inh] w fun e w' => ∃ v, e = .returned (.agg #[v, .int .i64 (startP n ex inh).e, .int .i64 (startP n ex inh).a]) ∧ TxS w' v (startP n ex inh).S ∧ Below w.heap.size w w' := by
  obtain ⟨m, hm⟩ : ∃ m, min (max n 0) 8 + 1 = m := ⟨_, rfl⟩
  cases ex <;> cases inh <;> simp only [startP, hm, if_true, Bool.false_eq_true, if_false]
  · go_enter Tryd.func10, Tryd.ntmps10
    go_wp2
    have hw := start_world w [.slice (some ⟨w.heap.size + 1, 0, none⟩) 1 1, .int .i64 m, .int .i64 m] [.slice (some ⟨w.heap.size + 1, 0, none⟩) 1 1, .int .i64 m, .int .i64 m]
    refine bodyPost_ret (results_blk rfl rfl hw.1 Tryd.underlying36 rfl szPo) rfl ⟨_, rfl, hw.2, al3 w _ _ _⟩
  · go_enter Tryd.func10, Tryd.ntmps10
    go_wp2
    have hw := start_world w [.slice (some ⟨w.heap.size + 1, 0, none⟩) 1 1, .int .i64 m, .int .i64 0] [.slice (some ⟨w.heap.size + 1, 0, none⟩) 1 1, .int .i64 m, .int .i64 0]
    refine bodyPost_ret (results_blk rfl rfl hw.1 Tryd.underlying36 rfl szPo) rfl ⟨_, rfl, hw.2, al3 w _ _ _⟩
  · go_enter Tryd.func10, Tryd.ntmps10
    go_wp2
    have hw := start_world w [.slice (some ⟨w.heap.size + 1, 0, none⟩) 1 1, .int .i64 0, .int .i64 m] [.slice (some ⟨w.heap.size + 1, 0, none⟩) 1 1, .int .i64 0, .int .i64 m]
    refine bodyPost_ret (results_blk rfl rfl hw.1 Tryd.underlying36 rfl szPo) rfl ⟨_, rfl, hw.2, al3 w _ _ _⟩
  · go_enter Tryd.func10, Tryd.ntmps10
    go_wp2
    have hw := start_world w [.slice (some ⟨w.heap.size + 1, 0, none⟩) 1 1, .int .i64 0, .int .i64 0] [.slice (some ⟨w.heap.size + 1, 0, none⟩) 1 1, .int .i64 0, .int .i64 0]
    refine bodyPost_ret (results_blk rfl rfl hw.1 Tryd.underlying36 rfl szPo) rfl ⟨_, rfl, hw.2, al3 w _ _ _⟩
end Go.Proofs.YtkjdihikcgpababDoor
/-
  Policy: which of those that are asked for hold.
-/
namespace Go.Proofs.YtkjdihikcgpababDoor
open Go.RowKit Go.Sort Go.Lib
/-- What End tells. -/
def EndOut (w : World) (e : Ending) (q : List Tx × Bool) : Prop := ∃ r, e = .returned (.tuple #[r, .bool q.2]) ∧ TxS w r q.1
set_option maxRecDepth 20000 in
set_option maxHeartbeats 4000000 in
theorem End_any {w : World} (u : Value) (pe pa : Int) (ci cs cp : Value) (cr ch : Int) (v : Value) (S U : List Tx) (L : List Tx) (o : Bool) (hu : TxS w u S) (hv : TxS w v U) (hS : S.length ≤ 524288) (hU : U.length ≤ 524288) (h0 : -9223372036854775808 ≤ pe) (h1 : pe ≤ 9223372036854775807) :
    Calls Tryd.prog 12 #[.agg #[u, .int .i64 pe, .int .i64 pa], .agg #[.slice none 0 0, .slice none 0 0, .slice none 0 0, ci, cs, .int .i64 0, .int .i64 0, .int .i64 0, .slice none 0 0, .slice none 0 0, .slice none 0 0, .slice none 0 0, .int .i64 0, .int .i64 0, .int .i64 0, .int .i64 0, .slice none 0 0, .bool false, .int .i64 0, .int .i64 0, .slice none 0 0, .bool false, .slice none 0 0, .slice none 0 0, .slice none 0 0, cp, .int .i64 cr, .int .i64 ch, .slice none 0 0, .slice none 0 0, .bool false], v] w fun e w' => EndOut w' e (endP ⟨S, pe, pa⟩ ⟨L, cr, ch, o⟩ U) ∧ Below w.heap.size w w' := by
  obtain ⟨x, hx⟩ : ∃ x, (if cr = 0 then 0 else less pe) = x := ⟨_, rfl⟩
  obtain ⟨G, hG⟩ : ∃ G, grant S U = G := ⟨_, rfl⟩
  have HE : Hid (endP ⟨S, pe, pa⟩ ⟨L, cr, ch, o⟩ U = if G = [] ∧ x ≤ 0 then ([], false) else (G, true)) := by show _ = _; unfold endP; simp only [hG, hx]
  have HL : Hid (∀ w1 : World, Calls Tryd.prog 17 #[.int .i64 pe] w1 fun e w' => e = .returned (.int .i64 (less pe)) ∧ w1 = w') := fun w1 => oneLess_any pe h0 h1
  have HGr : Hid (∀ w1 : World, Below w.heap.size w w1 → Calls Tryd.prog 19 #[u, v] w1 fun e w' => ∃ r, e = .returned r ∧ TxS w' r G ∧ Below w1.heap.size w1 w') := fun w1 h => by
    have := granted_any (w := w1) u v S U (hu.below h) (hv.below h) (by omega) (by omega)
    rw [hG] at this
    exact this
  have HB : Hid (∀ o1 o2 : Obj, Below w.heap.size w ((w.alloc o1).alloc o2)) := fun o1 o2 => ((Below.refl _ _).alloc (Nat.le_refl _) _).alloc ((Below.refl _ _).alloc (Nat.le_refl _) _).size _
  obtain ⟨g, hg⟩ : ∃ g, G.length = g := ⟨_, rfl⟩
  have HF : Hid (∀ (w1 : World) (r : Value), TxS w1 r G → ∃ a c, r = .slice a g c) := fun w1 r h => by obtain ⟨a, c, h1, _⟩ := h.form; exact ⟨a, c, by rw [h1, hg]⟩
  have HX : Hid (G.length = g) := hg
  have HCR : Hid ((if cr = 0 then 0 else less pe) = x) := hx
  clear hu hv hS hU hx hG hg
  rw [HE.out]
  by_cases hc : cr = 0
  · subst hc
    have hx0 : x = 0 := by have := HCR.out; simpa using this.symm
    subst hx0
    by_cases hz : g = 0
    · subst hz
      have HN : Hid (G = []) := List.eq_nil_of_length_eq_zero HX.out
      rw [if_pos ⟨HN.out, Int.le_refl _⟩]
      go_enter Tryd.func12, Tryd.ntmps12
      go_wp2_with (first
        | (go_at_call 17; refine (HL.out _).mono ?_; rintro e w1 ⟨rfl, rfl⟩)
        | (go_at_call 19; refine (HGr.out _ (HB.out _ _)).mono ?_; rintro e w2 ⟨r, rfl, hr, hb2⟩; obtain ⟨ra, rc, rfl⟩ := HF.out _ _ hr)
        | go_in)
      go_ret2
      exact ⟨⟨_, rfl, TxS.nil _⟩, (HB.out _ _).trans (hb2.mono (HB.out _ _).size)⟩
    · have hgz : ((g : Int) == 0) = false := by simpa using hz
      have hgn : ¬ (g : Int) = 0 := by omega
      rw [if_neg (fun h => hz (by rw [← HX.out, h.1]; rfl))]
      go_enter Tryd.func12, Tryd.ntmps12
      go_wp2_with (first
        | (go_at_call 17; refine (HL.out _).mono ?_; rintro e w1 ⟨rfl, rfl⟩)
        | (go_at_call 19; refine (HGr.out _ (HB.out _ _)).mono ?_; rintro e w2 ⟨r, rfl, hr, hb2⟩; obtain ⟨ra, rc, rfl⟩ := HF.out _ _ hr)
        | go_in)
      go_ret2
      exact ⟨⟨_, rfl, hr⟩, (HB.out _ _).trans (hb2.mono (HB.out _ _).size)⟩
  · have hx0 : x = less pe := by have := HCR.out; rw [if_neg hc] at this; exact this.symm
    subst hx0
    have hcb : (cr == 0) = false := by simpa using hc
    by_cases hz : g = 0
    · subst hz
      have HN : Hid (G = []) := List.eq_nil_of_length_eq_zero HX.out
      by_cases hl : less pe ≤ 0
      · rw [if_pos ⟨HN.out, hl⟩]
        go_enter Tryd.func12, Tryd.ntmps12
        go_wp2_with (first
          | (go_at_call 17; refine (HL.out _).mono ?_; rintro e w1 ⟨rfl, rfl⟩)
          | (go_at_call 19; refine (HGr.out _ (HB.out _ _)).mono ?_; rintro e w2 ⟨r, rfl, hr, hb2⟩; obtain ⟨ra, rc, rfl⟩ := HF.out _ _ hr)
          | go_in)
        go_ret2
        exact ⟨⟨_, rfl, TxS.nil _⟩, (HB.out _ _).trans (hb2.mono (HB.out _ _).size)⟩
      · rw [if_neg (fun h => hl h.2)]
        go_enter Tryd.func12, Tryd.ntmps12
        go_wp2_with (first
          | (go_at_call 17; refine (HL.out _).mono ?_; rintro e w1 ⟨rfl, rfl⟩)
          | (go_at_call 19; refine (HGr.out _ (HB.out _ _)).mono ?_; rintro e w2 ⟨r, rfl, hr, hb2⟩; obtain ⟨ra, rc, rfl⟩ := HF.out _ _ hr)
          | go_in)
        go_ret2
        exact ⟨⟨_, rfl, hr⟩, (HB.out _ _).trans (hb2.mono (HB.out _ _).size)⟩
    · have hgz : ((g : Int) == 0) = false := by simpa using hz
      have hgn : ¬ (g : Int) = 0 := by omega
      rw [if_neg (fun h => hz (by rw [← HX.out, h.1]; rfl))]
      go_enter Tryd.func12, Tryd.ntmps12
      go_wp2_with (first
        | (go_at_call 17; refine (HL.out _).mono ?_; rintro e w1 ⟨rfl, rfl⟩)
        | (go_at_call 19; refine (HGr.out _ (HB.out _ _)).mono ?_; rintro e w2 ⟨r, rfl, hr, hb2⟩; obtain ⟨ra, rc, rfl⟩ := HF.out _ _ hr)
        | go_in)
      go_ret2
      exact ⟨⟨_, rfl, hr⟩, (HB.out _ _).trans (hb2.mono (HB.out _ _).size)⟩
end Go.Proofs.YtkjdihikcgpababDoor
