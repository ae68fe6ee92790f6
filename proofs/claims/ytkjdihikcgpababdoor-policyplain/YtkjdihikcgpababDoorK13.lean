/-
  Policy: a certificate with just what counts.
-/
import Derived.Lib.SlBytesConst
import Derived.Test.YtkjdihikcgpababDoorK12
namespace Go.Proofs.YtkjdihikcgpababDoor
open Go.RowKit Go.Sort Go.Lib
theorem undB8 : Tryd.prog.underlying 38 = some (.slice 5) := by kernel_rfl
theorem undE8 : Tryd.prog.underlying 5 = some (.int .u8) := by kernel_rfl
/-- A name of one part, an organisation 'a'. -/
def NameA (w : World) (v : Value) : Prop :=
  ∃ n1 n2 n3, v = .slice (some ⟨n3, 0, none⟩) 1 1 ∧ n1 < w.heap.size ∧ n2 < w.heap.size ∧ n3 < w.heap.size ∧ w.cell? ⟨n3, 0, none⟩ = some (.slice (some ⟨n2, 0, none⟩) 1 1) ∧ w.cell? ⟨n2, 0, none⟩ = some (.string ⟨#[50, 46, 53, 46, 52, 46, 49, 48]⟩) ∧ w.cell? ⟨n2, 1, none⟩ = some (.int .i64 12) ∧ w.cell? ⟨n2, 2, none⟩ = some (.slice (some ⟨n1, 0, none⟩) 1 1) ∧ w.cell? ⟨n1, 0, none⟩ = some (.int .u8 97)
theorem NameA.below {w w' : World} {v : Value} (h : NameA w v) (hb : Below w.heap.size w w') : NameA w' v := by
  obtain ⟨n1, n2, n3, h0, l1, l2, l3, c1, c2, c3, c4, c5⟩ := h
  have hs := hb.size
  exact ⟨n1, n2, n3, h0, by omega, by omega, by omega, (hb.cell (p := ⟨n3, 0, none⟩) l3).trans c1, (hb.cell (p := ⟨n2, 0, none⟩) l2).trans c2, (hb.cell (p := ⟨n2, 1, none⟩) l2).trans c3, (hb.cell (p := ⟨n2, 2, none⟩) l2).trans c4, (hb.cell (p := ⟨n1, 0, none⟩) l1).trans c5⟩
theorem cell_row {w : World} {b i : Nat} {C : Array Value} {T : TypeId} {f : Nat × Nat} (h : w.heap[b]? = some (.cells C T f)) : w.cell? ⟨b, i, none⟩ = C[i]? := by
  unfold World.cell?
  simp [h]
theorem heap_new (w : World) (o : Obj) : (w.alloc o).heap[w.heap.size]? = some o := by
  show (w.heap.push o)[w.heap.size]? = _
  simp
theorem heap_old {w : World} {o o' : Obj} {b : Nat} (h : w.heap[b]? = some o') : (w.alloc o).heap[b]? = some o' := by
  have hl : b < w.heap.size := (Array.getElem?_eq_some_iff.1 h).1
  exact (Below.heap_alloc w o b hl).trans h
theorem name_world (w : World) (c1 c2 : List Value) :
    let W := (((((w.alloc (.cells c1.toArray 26)).alloc (.cells c2.toArray 51)).alloc (.cells #[.int .u8 97] 5 (1, 2))).alloc (.cells #[.string ⟨#[50, 46, 53, 46, 52, 46, 49, 48]⟩, .int .i64 12, .slice (some ⟨w.heap.size + 2, 0, none⟩) 1 1] 63)).alloc (.cells #[.slice (some ⟨w.heap.size + 3, 0, none⟩) 1 1] 64))
    Blk 26 W w.heap.size c1 ∧ Blk 51 W (w.heap.size + 1) c2 ∧ W.heap.size = w.heap.size + 5 ∧ NameA W (.slice (some ⟨w.heap.size + 4, 0, none⟩) 1 1) ∧ Below w.heap.size w W := by
  intro W
  obtain ⟨w1, hw1⟩ : ∃ x, w.alloc (.cells c1.toArray 26) = x := ⟨_, rfl⟩
  obtain ⟨w2, hw2⟩ : ∃ x, w1.alloc (.cells c2.toArray 51) = x := ⟨_, rfl⟩
  obtain ⟨w3, hw3⟩ : ∃ x, w2.alloc (.cells #[.int .u8 97] 5 (1, 2)) = x := ⟨_, rfl⟩
  obtain ⟨w4, hw4⟩ : ∃ x, w3.alloc (.cells #[.string ⟨#[50, 46, 53, 46, 52, 46, 49, 48]⟩, .int .i64 12, .slice (some ⟨w.heap.size + 2, 0, none⟩) 1 1] 63) = x := ⟨_, rfl⟩
  have hW : W = w4.alloc (.cells #[.slice (some ⟨w.heap.size + 3, 0, none⟩) 1 1] 64) := by rw [← hw4, ← hw3, ← hw2, ← hw1]
  have s1 : w1.heap.size = w.heap.size + 1 := by rw [← hw1]; simp
  have s2 : w2.heap.size = w.heap.size + 2 := by rw [← hw2]; simp [s1]
  have s3 : w3.heap.size = w.heap.size + 3 := by rw [← hw3]; simp [s2]
  have s4 : w4.heap.size = w.heap.size + 4 := by rw [← hw4]; simp [s3]
  have a1 : Blk 26 w1 w.heap.size c1 := by rw [← hw1]; exact Blk.new _ _ _
  have a2 : Blk 51 w2 (w.heap.size + 1) c2 := by rw [← hw2, ← s1]; exact Blk.new _ _ _
  have a3 : w3.heap[w.heap.size + 2]? = some (.cells #[.int .u8 97] 5 (1, 2)) := by rw [← hw3, ← s2]; exact heap_new _ _
  have a4 : w4.heap[w.heap.size + 3]? = some (.cells #[.string ⟨#[50, 46, 53, 46, 52, 46, 49, 48]⟩, .int .i64 12, .slice (some ⟨w.heap.size + 2, 0, none⟩) 1 1] 63) := by rw [← hw4, ← s3]; exact heap_new _ _
  have a5 : W.heap[w.heap.size + 4]? = some (.cells #[.slice (some ⟨w.heap.size + 3, 0, none⟩) 1 1] 64) := by rw [hW, ← s4]; exact heap_new _ _
  have b3 : W.heap[w.heap.size + 2]? = some (.cells #[.int .u8 97] 5 (1, 2)) := by rw [hW, ← hw4]; exact heap_old (heap_old a3)
  have b4 : W.heap[w.heap.size + 3]? = some (.cells #[.string ⟨#[50, 46, 53, 46, 52, 46, 49, 48]⟩, .int .i64 12, .slice (some ⟨w.heap.size + 2, 0, none⟩) 1 1] 63) := by rw [hW]; exact heap_old a4
  have sW : W.heap.size = w.heap.size + 5 := by rw [hW]; simp [s4]
  refine ⟨?_, ?_, sW, ⟨w.heap.size + 2, w.heap.size + 3, w.heap.size + 4, rfl, by omega, by omega, by omega, ?_, ?_, ?_, ?_, ?_⟩, ?_⟩
  · rw [hW, ← hw4, ← hw3, ← hw2]; exact (((a1.alloc _).alloc _).alloc _).alloc _
  · rw [hW, ← hw4, ← hw3]; exact ((a2.alloc _).alloc _).alloc _
  · rw [cell_row a5]; rfl
  · rw [cell_row b4]; rfl
  · rw [cell_row b4]; rfl
  · rw [cell_row b4]; rfl
  · rw [cell_row b3]; rfl
  · rw [hW, ← hw4, ← hw3, ← hw2, ← hw1]
    have h3 := al3 w (.cells c1.toArray 26) (.cells c2.toArray 51) (.cells #[.int .u8 97] 5 (1, 2))
    have h4 := h3.alloc h3.size (.cells #[.string ⟨#[50, 46, 53, 46, 52, 46, 49, 48]⟩, .int .i64 12, .slice (some ⟨w.heap.size + 2, 0, none⟩) 1 1] 63)
    exact h4.alloc h4.size _
theorem wpList_val {P : Program} {w : World} {ops : Array Oper} {rest : List Oper} {o : Oper} {a : Act} {Q : Exit → Act → World → Prop} {v : Value} (hgd : o.guard = none) (hr : (execOp a.eval o).run P w = .ok (.value v) w) (h : wpList P ops Q rest (a.put o.dst v) w) : wpList P ops Q (o :: rest) a w := by
  refine wpList_plain hgd fun K hK => ?_
  unfold Oper.wp
  simp [hr]
  exact hK _ _ h
theorem build_cert (w : World) (na ca : Option Addr) (nn nc cn cc : Nat) (cr ch : Int) : (Instr.build 51 #[(18, .slice ca cn cc), (19, .int .i64 cr), (20, .int .i64 ch), (3, .slice na nn nc), (4, .slice na nn nc)]).run Tryd.prog w = .ok (.agg #[.slice none 0 0, .slice none 0 0, .slice none 0 0, .slice na nn nc, .slice na nn nc, .int .i64 0, .int .i64 0, .int .i64 0, .slice none 0 0, .slice none 0 0, .slice none 0 0, .slice none 0 0, .int .i64 0, .int .i64 0, .int .i64 0, .int .i64 0, .slice none 0 0, .bool false, .int .i64 0, .int .i64 0, .slice none 0 0, .bool false, .slice none 0 0, .slice none 0 0, .slice none 0 0, .slice ca cn cc, .int .i64 cr, .int .i64 ch, .slice none 0 0, .slice none 0 0, .bool false]) w := by
  kernel_rfl
theorem wpList_bldC {w : World} {ops : Array Oper} {rest : List Oper} {o : Oper} {a : Act} {Q : Exit → Act → World → Prop} (hgd : o.guard = none) (hop : o.op = .build 51 #[(18, .tmp 11), (19, .tmp 13), (20, .tmp 15), (3, .tmp 16), (4, .tmp 17)]) (na ca : Option Addr) (nn nc cn cc : Nat) (cr ch : Int) (e11 : a.eval (.tmp 11) = .slice ca cn cc) (e13 : a.eval (.tmp 13) = .int .i64 cr) (e15 : a.eval (.tmp 15) = .int .i64 ch) (e16 : a.eval (.tmp 16) = .slice na nn nc) (e17 : a.eval (.tmp 17) = .slice na nn nc)
    (h : wpList Tryd.prog ops Q rest (a.put o.dst (.agg #[.slice none 0 0, .slice none 0 0, .slice none 0 0, .slice na nn nc, .slice na nn nc, .int .i64 0, .int .i64 0, .int .i64 0, .slice none 0 0, .slice none 0 0, .slice none 0 0, .slice none 0 0, .int .i64 0, .int .i64 0, .int .i64 0, .int .i64 0, .slice none 0 0, .bool false, .int .i64 0, .int .i64 0, .slice none 0 0, .bool false, .slice none 0 0, .slice none 0 0, .slice none 0 0, .slice ca cn cc, .int .i64 cr, .int .i64 ch, .slice none 0 0, .slice none 0 0, .bool false])) w) : wpList Tryd.prog ops Q (o :: rest) a w :=
  wpList_val hgd (run_bl hop (by simp only [List.map_toArray, List.map_cons, List.map_nil, e11, e13, e15, e16, e17]; exact build_cert w na ca nn nc cn cc cr ch)) h
set_option maxRecDepth 20000 in
set_option maxHeartbeats 4000000 in
theorem of_any {w : World} (ca : Option Addr) (cn cc : Nat) (cr ch : Int) (o : Bool) :
    Calls Tryd.prog 13 #[.agg #[.slice ca cn cc, .int .i64 cr, .int .i64 ch, .bool o]] w fun e w' => ∃ nv, e = .returned (.agg #[.slice none 0 0, .slice none 0 0, .slice none 0 0, nv, (if o = true then nv else .slice none 0 0), .int .i64 0, .int .i64 0, .int .i64 0, .slice none 0 0, .slice none 0 0, .slice none 0 0, .slice none 0 0, .int .i64 0, .int .i64 0, .int .i64 0, .int .i64 0, .slice none 0 0, .bool false, .int .i64 0, .int .i64 0, .slice none 0 0, .bool false, .slice none 0 0, .slice none 0 0, .slice none 0 0, .slice ca cn cc, .int .i64 cr, .int .i64 ch, .slice none 0 0, .slice none 0 0, .bool false]) ∧ NameA w' nv ∧ Below w.heap.size w w' := by
  have kc : ∀ o1 o2 : Obj, (convert 38 38 (.slice (some ⟨w.heap.size + 1 + 1, 0, none⟩) 1 1)).run Tryd.prog (((w.alloc o1).alloc o2).alloc (.cells #[.int .u8 97] 5)) = .ok (.slice (some ⟨w.heap.size + 1 + 1, 0, none⟩) 1 1) (((w.alloc o1).alloc o2).alloc (.cells #[.int .u8 97] 5 (1, 2))) := fun o1 o2 => by
    have := Lib.run_convert_bytes_const (P := Tryd.prog) ((w.alloc o1).alloc o2) 38 5 #[.int .u8 97] 1 1 undB8 undE8
    rw [show ((w.alloc o1).alloc o2).heap.size = w.heap.size + 1 + 1 by simp] at this
    exact this
  go_enter Tryd.func13, Tryd.ntmps13
  go_upto_region 2 with (fail)
  clear kc
  refine wp_genP (fun W => Blk 26 W w.heap.size [.slice ca cn cc, .int .i64 cr, .int .i64 ch, .bool o] ∧ Blk 51 W (w.heap.size + 1) [.slice none 0 0, .slice none 0 0, .slice none 0 0, .slice none 0 0, .slice none 0 0, .int .i64 0, .int .i64 0, .int .i64 0, .slice none 0 0, .slice none 0 0, .slice none 0 0, .slice none 0 0, .int .i64 0, .int .i64 0, .int .i64 0, .int .i64 0, .slice none 0 0, .bool false, .int .i64 0, .int .i64 0, .slice none 0 0, .bool false, .slice none 0 0, .slice none 0 0, .slice none 0 0, .slice none 0 0, .int .i64 0, .int .i64 0, .slice none 0 0, .slice none 0 0, .bool false] ∧ W.heap.size = w.heap.size + 5 ∧ NameA W (.slice (some ⟨w.heap.size + 4, 0, none⟩) 1 1) ∧ Below w.heap.size w W) ?_ ?_
  · exact name_world w [.slice ca cn cc, .int .i64 cr, .int .i64 ch, .bool o] [.slice none 0 0, .slice none 0 0, .slice none 0 0, .slice none 0 0, .slice none 0 0, .int .i64 0, .int .i64 0, .int .i64 0, .slice none 0 0, .slice none 0 0, .slice none 0 0, .slice none 0 0, .int .i64 0, .int .i64 0, .int .i64 0, .int .i64 0, .slice none 0 0, .bool false, .int .i64 0, .int .i64 0, .slice none 0 0, .bool false, .slice none 0 0, .slice none 0 0, .slice none 0 0, .slice none 0 0, .int .i64 0, .int .i64 0, .slice none 0 0, .slice none 0 0, .bool false]
  rintro W ⟨g1, g2, g3, g4, g5⟩
  have HQ : Hid (Blk 26 W w.heap.size [.slice ca cn cc, .int .i64 cr, .int .i64 ch, .bool o] ∧ Blk 51 W (w.heap.size + 1) [.slice none 0 0, .slice none 0 0, .slice none 0 0, .slice none 0 0, .slice none 0 0, .int .i64 0, .int .i64 0, .int .i64 0, .slice none 0 0, .slice none 0 0, .slice none 0 0, .slice none 0 0, .int .i64 0, .int .i64 0, .int .i64 0, .int .i64 0, .slice none 0 0, .bool false, .int .i64 0, .int .i64 0, .slice none 0 0, .bool false, .slice none 0 0, .slice none 0 0, .slice none 0 0, .slice none 0 0, .int .i64 0, .int .i64 0, .slice none 0 0, .slice none 0 0, .bool false] ∧ W.heap.size = w.heap.size + 5 ∧ NameA W (.slice (some ⟨w.heap.size + 4, 0, none⟩) 1 1) ∧ Below w.heap.size w W) := ⟨g1, g2, g3, g4, g5⟩
  have c0 : W.cell? ⟨w.heap.size, 0, none⟩ = some (.slice ca cn cc) := g1.cell 0
  have c1 : W.cell? ⟨w.heap.size, 1, none⟩ = some (.int .i64 cr) := g1.cell 1
  have c2 : W.cell? ⟨w.heap.size, 2, none⟩ = some (.int .i64 ch) := g1.cell 2
  clear g1 g2 g4 g5
  have HZ : Hid (World.there (W.alloc (.cells #[.slice none 0 0, .slice none 0 0, .slice none 0 0, .slice none 0 0, .slice none 0 0, .int .i64 0, .int .i64 0, .int .i64 0, .slice none 0 0, .slice none 0 0, .slice none 0 0, .slice none 0 0, .int .i64 0, .int .i64 0, .int .i64 0, .int .i64 0, .slice none 0 0, .bool false, .int .i64 0, .int .i64 0, .slice none 0 0, .bool false, .slice none 0 0, .slice none 0 0, .slice none 0 0, .slice none 0 0, .int .i64 0, .int .i64 0, .slice none 0 0, .slice none 0 0, .bool false] 51)) W.heap.size 0 31) := (Blk.new 51 W [.slice none 0 0, .slice none 0 0, .slice none 0 0, .slice none 0 0, .slice none 0 0, .int .i64 0, .int .i64 0, .int .i64 0, .slice none 0 0, .slice none 0 0, .slice none 0 0, .slice none 0 0, .int .i64 0, .int .i64 0, .int .i64 0, .int .i64 0, .slice none 0 0, .bool false, .int .i64 0, .int .i64 0, .slice none 0 0, .bool false, .slice none 0 0, .slice none 0 0, .slice none 0 0, .slice none 0 0, .int .i64 0, .int .i64 0, .slice none 0 0, .slice none 0 0, .bool false]).there 0 31 (by simp)
  have HN : Hid (∀ c : List Value, c.length = 31 → Blk 51 ((W.alloc (.cells #[.slice none 0 0, .slice none 0 0, .slice none 0 0, .slice none 0 0, .slice none 0 0, .int .i64 0, .int .i64 0, .int .i64 0, .slice none 0 0, .slice none 0 0, .slice none 0 0, .slice none 0 0, .int .i64 0, .int .i64 0, .int .i64 0, .int .i64 0, .slice none 0 0, .bool false, .int .i64 0, .int .i64 0, .slice none 0 0, .bool false, .slice none 0 0, .slice none 0 0, .slice none 0 0, .slice none 0 0, .int .i64 0, .int .i64 0, .slice none 0 0, .slice none 0 0, .bool false] 51)).setCells W.heap.size 0 c) W.heap.size c ∧ Below W.heap.size W ((W.alloc (.cells #[.slice none 0 0, .slice none 0 0, .slice none 0 0, .slice none 0 0, .slice none 0 0, .int .i64 0, .int .i64 0, .int .i64 0, .slice none 0 0, .slice none 0 0, .slice none 0 0, .slice none 0 0, .int .i64 0, .int .i64 0, .int .i64 0, .int .i64 0, .slice none 0 0, .bool false, .int .i64 0, .int .i64 0, .slice none 0 0, .bool false, .slice none 0 0, .slice none 0 0, .slice none 0 0, .slice none 0 0, .int .i64 0, .int .i64 0, .slice none 0 0, .slice none 0 0, .bool false] 51)).setCells W.heap.size 0 c)) := fun c hc => by
    have h := Blk.new 51 W [.slice none 0 0, .slice none 0 0, .slice none 0 0, .slice none 0 0, .slice none 0 0, .int .i64 0, .int .i64 0, .int .i64 0, .slice none 0 0, .slice none 0 0, .slice none 0 0, .slice none 0 0, .int .i64 0, .int .i64 0, .int .i64 0, .int .i64 0, .slice none 0 0, .bool false, .int .i64 0, .int .i64 0, .slice none 0 0, .bool false, .slice none 0 0, .slice none 0 0, .slice none 0 0, .slice none 0 0, .int .i64 0, .int .i64 0, .slice none 0 0, .slice none 0 0, .bool false]
    have h2 := (Upd.setCells (b := W.heap.size) c 0 (W.alloc (.cells #[.slice none 0 0, .slice none 0 0, .slice none 0 0, .slice none 0 0, .slice none 0 0, .int .i64 0, .int .i64 0, .int .i64 0, .slice none 0 0, .slice none 0 0, .slice none 0 0, .slice none 0 0, .int .i64 0, .int .i64 0, .int .i64 0, .int .i64 0, .slice none 0 0, .bool false, .int .i64 0, .int .i64 0, .slice none 0 0, .bool false, .slice none 0 0, .slice none 0 0, .slice none 0 0, .slice none 0 0, .int .i64 0, .int .i64 0, .slice none 0 0, .slice none 0 0, .bool false] 51))).below ((Below.refl W.heap.size W).alloc (Nat.le_refl _) _) (by simp) (Nat.le_refl _)
    exact ⟨h.fill c (by rw [hc]; rfl), h2⟩
  have HG3 : Hid (W.heap.size = w.heap.size + 5) := g3
  clear g3
  go_upto_region 3 with (first
    | (refine wpList_bldC rfl rfl (some ⟨w.heap.size + 1 + 1 + 1 + 1, 0, none⟩) ca 1 1 cn cc cr ch rfl rfl rfl rfl rfl ?_)
    | (refine wpList_store_mid rfl 51 (.tmp 4) (.tmp 18) rfl W.heap.size 0 #[.slice none 0 0, .slice none 0 0, .slice none 0 0, .slice (some ⟨w.heap.size + 1 + 1 + 1 + 1, 0, none⟩) 1 1, .slice (some ⟨w.heap.size + 1 + 1 + 1 + 1, 0, none⟩) 1 1, .int .i64 0, .int .i64 0, .int .i64 0, .slice none 0 0, .slice none 0 0, .slice none 0 0, .slice none 0 0, .int .i64 0, .int .i64 0, .int .i64 0, .int .i64 0, .slice none 0 0, .bool false, .int .i64 0, .int .i64 0, .slice none 0 0, .bool false, .slice none 0 0, .slice none 0 0, .slice none 0 0, .slice ca cn cc, .int .i64 cr, .int .i64 ch, .slice none 0 0, .slice none 0 0, .bool false] rfl rfl HZ.out szC (by simp [Value.oneCell']) ?_))
  refine wp_genP (fun W2 => Blk 51 W2 W.heap.size [.slice none 0 0, .slice none 0 0, .slice none 0 0, .slice (some ⟨w.heap.size + 1 + 1 + 1 + 1, 0, none⟩) 1 1, .slice (some ⟨w.heap.size + 1 + 1 + 1 + 1, 0, none⟩) 1 1, .int .i64 0, .int .i64 0, .int .i64 0, .slice none 0 0, .slice none 0 0, .slice none 0 0, .slice none 0 0, .int .i64 0, .int .i64 0, .int .i64 0, .int .i64 0, .slice none 0 0, .bool false, .int .i64 0, .int .i64 0, .slice none 0 0, .bool false, .slice none 0 0, .slice none 0 0, .slice none 0 0, .slice ca cn cc, .int .i64 cr, .int .i64 ch, .slice none 0 0, .slice none 0 0, .bool false] ∧ Below W.heap.size W W2) (HN.out [.slice none 0 0, .slice none 0 0, .slice none 0 0, .slice (some ⟨w.heap.size + 1 + 1 + 1 + 1, 0, none⟩) 1 1, .slice (some ⟨w.heap.size + 1 + 1 + 1 + 1, 0, none⟩) 1 1, .int .i64 0, .int .i64 0, .int .i64 0, .slice none 0 0, .slice none 0 0, .slice none 0 0, .slice none 0 0, .int .i64 0, .int .i64 0, .int .i64 0, .int .i64 0, .slice none 0 0, .bool false, .int .i64 0, .int .i64 0, .slice none 0 0, .bool false, .slice none 0 0, .slice none 0 0, .slice none 0 0, .slice ca cn cc, .int .i64 cr, .int .i64 ch, .slice none 0 0, .slice none 0 0, .bool false] rfl) ?_
  rintro W2 ⟨p1, p2⟩
  have HP : Hid (Blk 51 W2 W.heap.size [.slice none 0 0, .slice none 0 0, .slice none 0 0, .slice (some ⟨w.heap.size + 1 + 1 + 1 + 1, 0, none⟩) 1 1, .slice (some ⟨w.heap.size + 1 + 1 + 1 + 1, 0, none⟩) 1 1, .int .i64 0, .int .i64 0, .int .i64 0, .slice none 0 0, .slice none 0 0, .slice none 0 0, .slice none 0 0, .int .i64 0, .int .i64 0, .int .i64 0, .int .i64 0, .slice none 0 0, .bool false, .int .i64 0, .int .i64 0, .slice none 0 0, .bool false, .slice none 0 0, .slice none 0 0, .slice none 0 0, .slice ca cn cc, .int .i64 cr, .int .i64 ch, .slice none 0 0, .slice none 0 0, .bool false] ∧ Below W.heap.size W W2) := ⟨p1, p2⟩
  have hws : w.heap.size + 1 < W.heap.size := by rw [HG3.out]; omega
  have k3 : W2.cell? ⟨w.heap.size, 3, none⟩ = some (.bool o) := (p2.cell (p := ⟨w.heap.size, 3, none⟩) (show w.heap.size < W.heap.size by omega)).trans (HQ.out.1.cell 3)
  have HT : Hid (∀ c : List Value, c.length = 31 → ∀ W3 : World, Below W.heap.size W W3 → Blk 51 (W3.setCells (w.heap.size + 1) 0 c) (w.heap.size + 1) c ∧ NameA (W3.setCells (w.heap.size + 1) 0 c) (.slice (some ⟨w.heap.size + 1 + 1 + 1 + 1, 0, none⟩) 1 1) ∧ Below w.heap.size w (W3.setCells (w.heap.size + 1) 0 c)) := fun c hc W3 h3 => by
    have hz := below_blk h3 HQ.out.2.1.lt HQ.out.2.1
    have hU := Upd.setCells (b := w.heap.size + 1) c 0 W3
    have hb := HQ.out.2.2.2.2.trans (h3.mono HQ.out.2.2.2.2.size)
    refine ⟨hz.fill c (by rw [hc]; rfl), ?_, hU.below hb hb.size (by omega)⟩
    obtain ⟨n1, n2, n3, e0, l1, l2, l3, d1, d2, d3, d4, d5⟩ := HQ.out.2.2.2.1.below h3
    have ne : ∀ {n i : Nat} {v : Value}, W3.cell? ⟨n, i, none⟩ = some v → n < W3.heap.size → n ≠ w.heap.size + 1 → (W3.setCells (w.heap.size + 1) 0 c).cell? ⟨n, i, none⟩ = some v := fun h hl hn => (hU.cellO (p := ⟨_, _, none⟩) hl hn).trans h
    have z0 := hz.cell 0
    have z1 := hz.cell 2
    have m3 : n3 ≠ w.heap.size + 1 := fun e => by rw [e] at d1; rw [z0] at d1; cases d1
    have m2 : n2 ≠ w.heap.size + 1 := fun e => by rw [e] at d2; rw [z0] at d2; cases d2
    have m1 : n1 ≠ w.heap.size + 1 := fun e => by rw [e] at d5; rw [z0] at d5; cases d5
    have hs := hU.size
    exact ⟨n1, n2, n3, e0, by omega, by omega, by omega, ne d1 l3 m3, ne d2 l2 m2, ne d3 l2 m2, ne d4 l2 m2, ne d5 l1 m1⟩
  have HTh : Hid (∀ W3 : World, Below W.heap.size W W3 → W3.there (w.heap.size + 1) 0 31) := fun W3 h3 => (below_blk h3 HQ.out.2.1.lt HQ.out.2.1).there 0 31 (by simp)
  clear p1 p2 c0 c1 c2 hws
  cases o with
  | true =>
    go_wp2_with (first
      | (refine wpList_load_mid rfl 51 (.tmp 4) rfl W.heap.size 0 rfl [.slice none 0 0, .slice none 0 0, .slice none 0 0, .slice (some ⟨w.heap.size + 1 + 1 + 1 + 1, 0, none⟩) 1 1, .slice (some ⟨w.heap.size + 1 + 1 + 1 + 1, 0, none⟩) 1 1, .int .i64 0, .int .i64 0, .int .i64 0, .slice none 0 0, .slice none 0 0, .slice none 0 0, .slice none 0 0, .int .i64 0, .int .i64 0, .int .i64 0, .int .i64 0, .slice none 0 0, .bool false, .int .i64 0, .int .i64 0, .slice none 0 0, .bool false, .slice none 0 0, .slice none 0 0, .slice none 0 0, .slice ca cn cc, .int .i64 cr, .int .i64 ch, .slice none 0 0, .slice none 0 0, .bool false] _ HP.out.1.whole Tryd.underlying51 rfl szC ?_)
      | (refine wpList_store_mid rfl 51 (.tmp 2) (.tmp 23) rfl (w.heap.size + 1) 0 #[.slice none 0 0, .slice none 0 0, .slice none 0 0, .slice (some ⟨w.heap.size + 1 + 1 + 1 + 1, 0, none⟩) 1 1, .slice (some ⟨w.heap.size + 1 + 1 + 1 + 1, 0, none⟩) 1 1, .int .i64 0, .int .i64 0, .int .i64 0, .slice none 0 0, .slice none 0 0, .slice none 0 0, .slice none 0 0, .int .i64 0, .int .i64 0, .int .i64 0, .int .i64 0, .slice none 0 0, .bool false, .int .i64 0, .int .i64 0, .slice none 0 0, .bool false, .slice none 0 0, .slice none 0 0, .slice none 0 0, .slice ca cn cc, .int .i64 cr, .int .i64 ch, .slice none 0 0, .slice none 0 0, .bool false] rfl rfl (HTh.out W2 HP.out.2) szC (by simp [Value.oneCell']) ?_))
    have hT := HT.out [.slice none 0 0, .slice none 0 0, .slice none 0 0, .slice (some ⟨w.heap.size + 1 + 1 + 1 + 1, 0, none⟩) 1 1, .slice (some ⟨w.heap.size + 1 + 1 + 1 + 1, 0, none⟩) 1 1, .int .i64 0, .int .i64 0, .int .i64 0, .slice none 0 0, .slice none 0 0, .slice none 0 0, .slice none 0 0, .int .i64 0, .int .i64 0, .int .i64 0, .int .i64 0, .slice none 0 0, .bool false, .int .i64 0, .int .i64 0, .slice none 0 0, .bool false, .slice none 0 0, .slice none 0 0, .slice none 0 0, .slice ca cn cc, .int .i64 cr, .int .i64 ch, .slice none 0 0, .slice none 0 0, .bool false] rfl W2 HP.out.2
    refine bodyPost_ret (results_blk rfl rfl hT.1 Tryd.underlying51 rfl szC) rfl ⟨_, rfl, hT.2⟩
  | false =>
    have k4 : W2.cell? ⟨W.heap.size, 4, none⟩ = some (.slice (some ⟨w.heap.size + 1 + 1 + 1 + 1, 0, none⟩) 1 1) := HP.out.1.cell 4
    have f4 := HP.out.1.frozen 4
    have HP2 : Hid (Blk 51 (W2.setCell ⟨W.heap.size, 4, none⟩ (.slice none 0 0)) W.heap.size [.slice none 0 0, .slice none 0 0, .slice none 0 0, .slice (some ⟨w.heap.size + 1 + 1 + 1 + 1, 0, none⟩) 1 1, .slice none 0 0, .int .i64 0, .int .i64 0, .int .i64 0, .slice none 0 0, .slice none 0 0, .slice none 0 0, .slice none 0 0, .int .i64 0, .int .i64 0, .int .i64 0, .int .i64 0, .slice none 0 0, .bool false, .int .i64 0, .int .i64 0, .slice none 0 0, .bool false, .slice none 0 0, .slice none 0 0, .slice none 0 0, .slice ca cn cc, .int .i64 cr, .int .i64 ch, .slice none 0 0, .slice none 0 0, .bool false] ∧ Below W.heap.size W (W2.setCell ⟨W.heap.size, 4, none⟩ (.slice none 0 0))) := ⟨HP.out.1.set 4 _, (Upd.set W2 W.heap.size 4 _).below HP.out.2 HP.out.2.size (Nat.le_refl _)⟩
    go_wp2_with (first
      | (refine wpList_load_mid rfl 51 (.tmp 4) rfl W.heap.size 0 rfl [.slice none 0 0, .slice none 0 0, .slice none 0 0, .slice (some ⟨w.heap.size + 1 + 1 + 1 + 1, 0, none⟩) 1 1, .slice none 0 0, .int .i64 0, .int .i64 0, .int .i64 0, .slice none 0 0, .slice none 0 0, .slice none 0 0, .slice none 0 0, .int .i64 0, .int .i64 0, .int .i64 0, .int .i64 0, .slice none 0 0, .bool false, .int .i64 0, .int .i64 0, .slice none 0 0, .bool false, .slice none 0 0, .slice none 0 0, .slice none 0 0, .slice ca cn cc, .int .i64 cr, .int .i64 ch, .slice none 0 0, .slice none 0 0, .bool false] _ HP2.out.1.whole Tryd.underlying51 rfl szC ?_)
      | (refine wpList_store_mid rfl 51 (.tmp 2) (.tmp 23) rfl (w.heap.size + 1) 0 #[.slice none 0 0, .slice none 0 0, .slice none 0 0, .slice (some ⟨w.heap.size + 1 + 1 + 1 + 1, 0, none⟩) 1 1, .slice none 0 0, .int .i64 0, .int .i64 0, .int .i64 0, .slice none 0 0, .slice none 0 0, .slice none 0 0, .slice none 0 0, .int .i64 0, .int .i64 0, .int .i64 0, .int .i64 0, .slice none 0 0, .bool false, .int .i64 0, .int .i64 0, .slice none 0 0, .bool false, .slice none 0 0, .slice none 0 0, .slice none 0 0, .slice ca cn cc, .int .i64 cr, .int .i64 ch, .slice none 0 0, .slice none 0 0, .bool false] rfl rfl (HTh.out _ HP2.out.2) szC (by simp [Value.oneCell']) ?_))
    have hT := HT.out [.slice none 0 0, .slice none 0 0, .slice none 0 0, .slice (some ⟨w.heap.size + 1 + 1 + 1 + 1, 0, none⟩) 1 1, .slice none 0 0, .int .i64 0, .int .i64 0, .int .i64 0, .slice none 0 0, .slice none 0 0, .slice none 0 0, .slice none 0 0, .int .i64 0, .int .i64 0, .int .i64 0, .int .i64 0, .slice none 0 0, .bool false, .int .i64 0, .int .i64 0, .slice none 0 0, .bool false, .slice none 0 0, .slice none 0 0, .slice none 0 0, .slice ca cn cc, .int .i64 cr, .int .i64 ch, .slice none 0 0, .slice none 0 0, .bool false] rfl _ HP2.out.2
    refine bodyPost_ret (results_blk rfl rfl hT.1 Tryd.underlying51 rfl szC) rfl ⟨_, rfl, hT.2⟩
end Go.Proofs.YtkjdihikcgpababDoor
/-
  Policy: certificates in a row; the law's chain.
-/
namespace Go.Proofs.YtkjdihikcgpababDoor
open Go.RowKit Go.Sort Go.Lib
/-- What counts of a certificate, and the slice of its policies. -/
structure Bt where
  P : List Tx
  r : Int
  i : Int
  own : Bool
  v : Value
def bitC (b : Bt) : List Value := [b.v, .int .i64 b.r, .int .i64 b.i, .bool b.own]
/-- The slice v reads these. -/
def BitS (w : World) (v : Value) (Z : List Bt) : Prop :=
  (∃ a c, v = .slice a Z.length c ∧ Z.length ≤ c ∧ (Z = [] ∨ ∃ b off, a = some ⟨b, off, none⟩ ∧ b < w.heap.size ∧ ∀ (i : Nat) (z : Bt), Z[i]? = some z → w.rangeAt b (off + i * 4) (bitC z))) ∧ ∀ z ∈ Z, TxS w z.v z.P ∧ (Lit.int .i64 z.r).wf = true ∧ (Lit.int .i64 z.i).wf = true
theorem BitS.below {w w' : World} {v : Value} {Z : List Bt} (h : BitS w v Z) (hb : Below w.heap.size w w') : BitS w' v Z := by
  obtain ⟨⟨a, c, h1, h2, h3⟩, h4⟩ := h
  refine ⟨⟨a, c, h1, h2, ?_⟩, fun z hz => ⟨(h4 z hz).1.below hb, (h4 z hz).2⟩⟩
  rcases h3 with h3 | ⟨b, off, h6, h7, h8⟩
  · exact .inl h3
  · exact .inr ⟨b, off, h6, Nat.lt_of_lt_of_le h7 hb.size, fun i z hz j u hj => (hb.cell (p := ⟨b, off + i * 4 + j, none⟩) h7).trans (h8 i z hz j u hj)⟩
theorem BitS.form {w : World} {v : Value} {Z : List Bt} (h : BitS w v Z) : ∃ a c, v = .slice a Z.length c ∧ Z.length ≤ c := by
  obtain ⟨⟨a, c, h1, h2, _⟩, _⟩ := h
  exact ⟨a, c, h1, h2⟩
theorem BitS.at {w : World} {a : Option Addr} {n c : Nat} {Z : List Bt} (h : BitS w (.slice a n c) Z) {i : Nat} {z : Bt} (hi : Z[i]? = some z) : ∃ b off, a = some ⟨b, off, none⟩ ∧ w.rangeAt b (off + i * 4) (bitC z) := by
  obtain ⟨⟨a', c', h1, h2, h3⟩, h4⟩ := h
  rcases h3 with h3 | ⟨b, off, h6, h7, h8⟩
  · subst h3; simp at hi
  · simp only [Value.slice.injEq] at h1
    obtain ⟨rfl, _, _⟩ := h1
    exact ⟨b, off, h6, h8 i z hi⟩
/-- A certificate that has just what counts: its names, its policies, its bounds. -/
structure Ct where
  nv : Value
  sub : Value
  cp : Value
  r : Int
  h : Int
def certL (y : Ct) : List Value := [.slice none 0 0, .slice none 0 0, .slice none 0 0, y.nv, y.sub, .int .i64 0, .int .i64 0, .int .i64 0, .slice none 0 0, .slice none 0 0, .slice none 0 0, .slice none 0 0, .int .i64 0, .int .i64 0, .int .i64 0, .int .i64 0, .slice none 0 0, .bool false, .int .i64 0, .int .i64 0, .slice none 0 0, .bool false, .slice none 0 0, .slice none 0 0, .slice none 0 0, y.cp, .int .i64 y.r, .int .i64 y.h, .slice none 0 0, .slice none 0 0, .bool false]
theorem certL_len (y : Ct) : (certL y).length = 31 := rfl
def CRel (w : World) (z : Bt) (y : Ct) : Prop := NameA w y.nv ∧ y.sub = (if z.own = true then y.nv else .slice none 0 0) ∧ y.cp = z.v ∧ y.r = z.r ∧ y.h = z.i
def RelC (w : World) (Z : List Bt) (Y : List Ct) : Prop := Y.length = Z.length ∧ ∀ (k : Nat) (z : Bt) (y : Ct), Z[k]? = some z → Y[k]? = some y → CRel w z y
theorem RelC.below {w w' : World} {Z : List Bt} {Y : List Ct} (h : RelC w Z Y) (hb : Below w.heap.size w w') : RelC w' Z Y :=
  ⟨h.1, fun k z y (hz : Z[k]? = some z) (hy : Y[k]? = some y) => ⟨(h.2 k z y hz hy).1.below hb, (h.2 k z y hz hy).2⟩⟩
theorem RelC.snoc {w : World} {Z : List Bt} {Y : List Ct} {z : Bt} {y : Ct} (h : RelC w Z Y) (hz : CRel w z y) : RelC w (Z ++ [z]) (Y ++ [y]) := by
  refine ⟨by simp [h.1], fun k z' y' (h1 : (Z ++ [z])[k]? = some z') (h2 : (Y ++ [y])[k]? = some y') => ?_⟩
  by_cases hk : k < Z.length
  · rw [List.getElem?_append_left hk] at h1
    rw [List.getElem?_append_left (by rw [h.1]; exact hk)] at h2
    exact h.2 k z' y' h1 h2
  · have hk2 : k = Z.length := by
      have h3 := (List.getElem?_eq_some_iff.1 h1).1
      simp at h3
      omega
    subst hk2
    rw [List.getElem?_append_right (Nat.le_refl _)] at h1
    rw [List.getElem?_append_right (by rw [h.1]; exact Nat.le_refl _), h.1] at h2
    simp at h1 h2
    subst h1; subst h2
    exact hz
theorem flat31 (Y : List Ct) : ∀ {i : Nat} {y : Ct}, Y[i]? = some y → ∀ j, j < 31 → (Y.flatMap certL)[i * 31 + j]? = (certL y)[j]? := by
  induction Y with
  | nil => intro i y h; simp at h
  | cons q Y ih =>
    intro i y h j hj
    have hl : (certL q).length = 31 := rfl
    rw [List.flatMap_cons]
    cases i with
    | zero =>
      simp at h
      subst h
      rw [List.getElem?_append_left (by omega)]
      simp
    | succ i =>
      rw [List.getElem?_append_right (by omega), hl, show (i + 1) * 31 + j - 31 = i * 31 + j by omega]
      exact ih (by simpa using h) j hj
/-- The slice v reads these certificates. -/
def CertS (w : World) (v : Value) (Y : List Ct) : Prop :=
  ∃ a c, v = .slice a Y.length c ∧ Y.length ≤ c ∧ (Y = [] ∨ ∃ b off, a = some ⟨b, off, none⟩ ∧ b < w.heap.size ∧ ∀ (i : Nat) (y : Ct), Y[i]? = some y → w.rangeAt b (off + i * 31) (certL y))
theorem CertS.below {w w' : World} {v : Value} {Y : List Ct} (h : CertS w v Y) (hb : Below w.heap.size w w') : CertS w' v Y := by
  obtain ⟨a, c, h1, h2, h3⟩ := h
  refine ⟨a, c, h1, h2, ?_⟩
  rcases h3 with h3 | ⟨b, off, h6, h7, h8⟩
  · exact .inl h3
  · exact .inr ⟨b, off, h6, Nat.lt_of_lt_of_le h7 hb.size, fun i z hz j u hj => (hb.cell (p := ⟨b, off + i * 31 + j, none⟩) h7).trans (h8 i z hz j u hj)⟩
theorem CertS.form {w : World} {v : Value} {Y : List Ct} (h : CertS w v Y) : ∃ a c, v = .slice a Y.length c ∧ Y.length ≤ c := by
  obtain ⟨a, c, h1, h2, _⟩ := h
  exact ⟨a, c, h1, h2⟩
theorem CertS.at {w : World} {a : Option Addr} {n c : Nat} {Y : List Ct} (h : CertS w (.slice a n c) Y) {i : Nat} {y : Ct} (hi : Y[i]? = some y) : ∃ b off, a = some ⟨b, off, none⟩ ∧ w.rangeAt b (off + i * 31) (certL y) ∧ b < w.heap.size := by
  obtain ⟨a', c', h1, h2, h3⟩ := h
  rcases h3 with h3 | ⟨b, off, h6, h7, h8⟩
  · subst h3; simp at hi
  · simp only [Value.slice.injEq] at h1
    obtain ⟨rfl, _, _⟩ := h1
    exact ⟨b, off, h6, h8 i y hi, h7⟩
theorem MRow.certs {B : Nat} {w : World} {v : Value} {Y : List Ct} (h : MRow 31 51 B w v Y.length (Y.flatMap certL)) : CertS w v Y := by
  obtain ⟨_, h⟩ := h
  rcases h with ⟨rfl, h0⟩ | ⟨b, S, c, rfl, _, hA, hS, hc, ht, _⟩
  · have : Y = [] := List.eq_nil_of_length_eq_zero h0
    subst this
    exact ⟨none, 0, rfl, Nat.le_refl _, .inl rfl⟩
  · refine ⟨_, c, rfl, hc, .inr ⟨b, 0, rfl, hA.lt, fun i y hy j u hj => ?_⟩⟩
    have hi : i < Y.length := (List.getElem?_eq_some_iff.1 hy).1
    have hj31 : j < 31 := by have := (List.getElem?_eq_some_iff.1 hj).1; rw [certL_len] at this; exact this
    rw [Nat.zero_add, hA.cell]
    have h1 := flat31 Y hy j hj31
    rw [← ht, List.getElem?_take, if_pos (by omega)] at h1
    rw [h1, hj]
theorem undCs : Tryd.prog.underlying 29 = some (.slice 51) := by kernel_rfl
theorem infoCs : (Tryd.prog.info? 51).map (fun i => (i.zero, i.size, i.bytes)) = some (some (.agg #[.slice none 0 0, .slice none 0 0, .slice none 0 0, .slice none 0 0, .slice none 0 0, .int .i64 0, .int .i64 0, .int .i64 0, .slice none 0 0, .slice none 0 0, .slice none 0 0, .slice none 0 0, .int .i64 0, .int .i64 0, .int .i64 0, .int .i64 0, .slice none 0 0, .bool false, .int .i64 0, .int .i64 0, .slice none 0 0, .bool false, .slice none 0 0, .slice none 0 0, .slice none 0 0, .slice none 0 0, .int .i64 0, .int .i64 0, .slice none 0 0, .slice none 0 0, .bool false]), 31, 520) := by kernel_rfl
theorem szB4 : (Tryd.prog.info? 26).map (·.size) = some 4 := by kernel_rfl
theorem src31 {w : World} {b : Nat} {y : Ct} (hA : Blk 51 w b (certL y)) (ho : ∀ u ∈ certL y, u.oneCell' = true) : Src Tryd.prog 31 29 (.slice (some ⟨b, 0, none⟩) 1 1) 1 (certL y) w := by
  refine Src.ofSlice w undCs _ _ _ _ (by rfl) (fun j u hj => ?_) ho
  have hadd : (⟨b, 0, none⟩ : Addr).add j = ⟨b, j, none⟩ := by simp [Addr.add] <;> omega
  rw [hadd, hA.cell j, hj]
theorem wpList_new {P : Program} {w w' : World} {ops : Array Oper} {rest : List Oper} {o : Oper} {a : Act} {Q : Exit → Act → World → Prop} {v : Value} (hgd : o.guard = none) (hr : (execOp a.eval o).run P w = .ok (.value v) w') (h : wpList P ops Q rest (a.put o.dst v) w') : wpList P ops Q (o :: rest) a w := by
  refine wpList_plain hgd fun K hK => ?_
  unfold Oper.wp
  simp [hr]
  exact hK _ _ h
theorem bs31 (W : World) (y : Ct) : (Instr.buildSlice 29 1 #[(0, .agg (certL y).toArray)]).run Tryd.prog W = .ok (.slice (some ⟨W.heap.size, 0, none⟩) 1 1) (W.alloc (.cells (certL y).toArray 51)) := by kernel_rfl
theorem wpList_bs31 {w : World} {ops : Array Oper} {rest : List Oper} {o : Oper} {a : Act} {Q : Exit → Act → World → Prop} (hgd : o.guard = none) (x : Operand) (hop : o.op = .buildSlice 29 1 #[(0, x)]) (y : Ct) (cs : List Value) (hcs : certL y = cs) (hx : a.eval x = .agg cs.toArray)
    (h : wpList Tryd.prog ops Q rest (a.put o.dst (.slice (some ⟨w.heap.size, 0, none⟩) 1 1)) (w.alloc (.cells cs.toArray 51))) : wpList Tryd.prog ops Q (o :: rest) a w := by
  subst hcs
  refine wpList_new hgd ?_ h
  have e1 : (#[(0, x)] : Array (Nat × Operand)).map (fun p => (p.1, a.eval p.2)) = #[(0, .agg (certL y).toArray)] := by
    simp only [List.map_toArray, List.map_cons, List.map_nil, hx]
  unfold execOp
  simp only [hop]
  show ((Instr.buildSlice 29 1 ((#[(0, x)] : Array (Nat × Operand)).map (fun p => (p.1, a.eval p.2)))) >>= fun v => pure (Next.value v)).run Tryd.prog w = _
  rw [e1, Sem.run_bind, bs31]
  rfl
theorem NameA.updC {w w' : World} {v : Value} (h : NameA w v) {T : TypeId} {b : Nat} {S : List Value} (hA : Blk T w b S) (h0 : S[0]? = some (.slice none 0 0)) (hU : Upd w w' b) : NameA w' v := by
  obtain ⟨n1, n2, n3, e0, l1, l2, l3, d1, d2, d3, d4, d5⟩ := h
  have z0 := (hA.cell 0).trans h0
  have ne : ∀ {n i : Nat} {u : Value}, w.cell? ⟨n, i, none⟩ = some u → n < w.heap.size → n ≠ b → w'.cell? ⟨n, i, none⟩ = some u := fun h hl hn => (hU.cellO (p := ⟨_, _, none⟩) hl hn).trans h
  have m3 : n3 ≠ b := fun e => by rw [e] at d1; rw [z0] at d1; cases d1
  have m2 : n2 ≠ b := fun e => by rw [e] at d2; rw [z0] at d2; cases d2
  have m1 : n1 ≠ b := fun e => by rw [e] at d5; rw [z0] at d5; cases d5
  have hs := hU.size
  exact ⟨n1, n2, n3, e0, by omega, by omega, by omega, ne d1 l3 m3, ne d2 l2 m2, ne d3 l2 m2, ne d4 l2 m2, ne d5 l1 m1⟩
theorem NameA.grew {B : Nat} {w w' : World} {v ov : Value} {Y : List Ct} {n : Nat} (h : NameA w v) (hM : MRow 31 51 B w ov n (Y.flatMap certL)) (h0 : n = 0 → ov = .slice none 0 0) (hG : MGrew 51 w w' ov) : NameA w' v := by
  rcases hG with hG | ⟨b, n', c', S', rfl, hA', hU⟩
  · exact h.below hG
  · obtain ⟨hl, hM⟩ := hM
    rcases hM with ⟨hM, _⟩ | ⟨b2, S, c, e, _, hA, hS, hc, ht, _⟩
    · cases hM
    · simp only [Value.slice.injEq, Option.some.injEq, Addr.mk.injEq, and_true] at e
      obtain ⟨rfl, rfl, rfl⟩ := e
      have hn : n' ≠ 0 := fun e => by have := h0 e; cases this
      refine h.updC hA ?_ hU
      cases Y with
      | nil => simp at hl; omega
      | cons y Y =>
        have h1 : (S.take (n' * 31))[0]? = some (.slice none 0 0) := by rw [ht]; rfl
        rw [List.getElem?_take, if_pos (by omega)] at h1
        exact h1
set_option maxRecDepth 20000 in
set_option maxHeartbeats 4000000 in
theorem chain_any {w : World} (v : Value) (Z : List Bt) (hv : BitS w v Z) (hZ : Z.length ≤ 1000) :
    Calls Tryd.prog 6 #[v] w fun e w' => ∃ r Y, e = .returned r ∧ CertS w' r Y ∧ RelC w' Z Y ∧ Below w.heap.size w w' := by
  obtain ⟨n, hn⟩ : ∃ n, Z.length = n := ⟨_, rfl⟩
  obtain ⟨a, c, rfl, hc⟩ := hv.form
  rw [hn] at hv hZ hc ⊢
  have HX : Hid (BitS w (.slice a n c) Z ∧ Z.length = n) := ⟨hv, hn⟩
  clear hv hn
  go_enter Tryd.func6, Tryd.ntmps6
  go_wp2
  go_loopw [3, 4] (fun ov iv wr => ∃ (i : Nat) (Y : List Ct), iv = .int .i64 (i : Int) ∧ i ≤ n ∧ MRow 31 51 w.heap.size wr ov i (Y.flatMap certL) ∧ (i = 0 → ov = .slice none 0 0) ∧ RelC wr (Z.take i) Y ∧ Below w.heap.size w wr) (fun _ iv _ => n - (intOf iv).toNat)
  case atStart => exact ⟨0, [], rfl, Nat.zero_le _, MRow.nil _ _ _ _, fun _ => rfl, ⟨by simp, fun k z y h => by simp at h⟩, Below.refl _ _⟩
  case round =>
    obtain ⟨i, Y, rfl, hi, hM, hM0, hR, hbl⟩ := hrel
    by_cases hlt : i < n
    · have hltI : (i : Int) < (n : Int) := by omega
      have hiZ : i < Z.length := by rw [HX.out.2]; exact hlt
      obtain ⟨z, hz⟩ : ∃ z, Z[i]? = some z := ⟨_, List.getElem?_eq_getElem hiZ⟩
      obtain ⟨b, off, rfl, q0⟩ := (HX.out.1.below hbl).at hz
      obtain ⟨bz, hbz⟩ : ∃ bz, bitC z = bz := ⟨_, rfl⟩
      rw [hbz] at q0
      have HQ : Hid (wr.rangeAt b (off + i * 4) bz ∧ (Tryd.prog.info? 26).map (·.size) = some bz.length) := ⟨q0, by rw [← hbz]; exact szB4⟩
      have hzm := (HX.out.1.below hbl).2 z (List.mem_of_getElem? hz)
      obtain ⟨ca, cc, hzv, _⟩ := hzm.1.form
      have HO : Hid (Calls Tryd.prog 13 #[.agg bz.toArray] wr fun e w' => ∃ (y : Ct) (cs : List Value), e = .returned (.agg cs.toArray) ∧ Hid (certL y = cs ∧ CRel w' z y ∧ (∀ u ∈ certL y, u.oneCell' = true) ∧ Below wr.heap.size wr w')) := by
        have := of_any (w := wr) ca z.P.length cc z.r z.i z.own
        show Calls _ _ #[.agg bz.toArray] _ _
        rw [← hbz]
        show Calls _ _ #[.agg #[z.v, .int .i64 z.r, .int .i64 z.i, .bool z.own]] _ _
        rw [hzv]
        refine this.mono ?_
        rintro e w' ⟨nv, rfl, h1, h2⟩
        refine ⟨⟨nv, if z.own = true then nv else .slice none 0 0, .slice ca z.P.length cc, z.r, z.i⟩, _, rfl, rfl, ⟨h1, rfl, hzv.symm, rfl, rfl⟩, ?_, h2⟩
        obtain ⟨n1, n2, n3, rfl, _⟩ := h1
        exact List.all_eq_true.1 (by cases z.own <;> rfl)
      have HT : Hid (Z.take (i + 1) = Z.take i ++ [z]) := by show _ = _; rw [List.take_succ_eq_append_getElem hiZ, (List.getElem?_eq_some_iff.1 hz).2]
      have HS : Hid (MRow 31 51 w.heap.size wr u3 i (Y.flatMap certL) ∧ RelC wr (Z.take i) Y ∧ Below w.heap.size w wr ∧ (i = 0 → u3 = .slice none 0 0)) := ⟨hM, hR, hbl, hM0⟩
      clear hM hM0 hR hbl q0 hzm hzv hz hbz
      go_wp2_with (first
        | (refine wpList_load_mid rfl 26 (.tmp 14) rfl b (off + i * 4) rfl bz _ HQ.out.1 Tryd.underlying26 rfl HQ.out.2 ?_)
        | (go_at_call 13; refine HO.out.mono ?_; rintro e w2 ⟨y, cs, rfl, HY⟩; have HM2 : Hid (MRow 31 51 w.heap.size w2 u3 i (Y.flatMap certL)) := HS.out.1.below HY.out.2.2.2; have HB2 : Hid (Below w.heap.size w w2) := below_via HS.out.2.2.1 HY.out.2.2.2 (Nat.le_refl _))
        | (refine wpList_bs31 rfl (.tmp 16) rfl y cs HY.out.1 rfl ?_)
        | (at_builtin; refine wpList_apm rfl (.tmp 11) (.tmp 17) 29 29 rfl 31 (.agg #[.slice none 0 0, .slice none 0 0, .slice none 0 0, .slice none 0 0, .slice none 0 0, .int .i64 0, .int .i64 0, .int .i64 0, .slice none 0 0, .slice none 0 0, .slice none 0 0, .slice none 0 0, .int .i64 0, .int .i64 0, .int .i64 0, .int .i64 0, .slice none 0 0, .bool false, .int .i64 0, .int .i64 0, .slice none 0 0, .bool false, .slice none 0 0, .slice none 0 0, .slice none 0 0, .slice none 0 0, .int .i64 0, .int .i64 0, .slice none 0 0, .slice none 0 0, .bool false]) rfl 51 520 undCs infoCs (by decide) w.heap.size u3 i (Y.flatMap certL) rfl (HM2.out.alloc _) (.slice (some ⟨w2.heap.size, 0, none⟩) 1 1) 1 (certL y) rfl (src31 (by have := Blk.new 51 w2 cs; rw [← HY.out.1] at this ⊢; exact this) HY.out.2.2.1) (by omega) (HB2.out.alloc HB2.out.size _).size ?_; intro v3 w3 hM3 hG3)
        | go_in)
      go_roundw
      case rel =>
        have hB3 := (HB2.out.alloc HB2.out.size (.cells cs.toArray 51)).trans (hG3.below (HM2.out.alloc _) (HB2.out.alloc HB2.out.size _).size)
        refine ⟨i + 1, Y ++ [y], by go_num, by omega, by rw [List.flatMap_append]; simpa using hM3, (fun h => by omega), ?_, hB3⟩
        rw [HT.out]
        have hg : ∀ nv, NameA w2 nv → NameA w3 nv := fun nv h => (h.below ((Below.refl _ _).alloc (Nat.le_refl _) (.cells cs.toArray 51))).grew (HM2.out.alloc _) HS.out.2.2.2 hG3
        refine RelC.snoc ⟨HS.out.2.1.1, fun k z' y' hz' hy' => ?_⟩ ⟨hg _ HY.out.2.1.1, HY.out.2.1.2⟩
        have := HS.out.2.1.2 k z' y' hz' hy'
        exact ⟨hg _ (this.1.below HY.out.2.2.2), this.2⟩
      case measure => simp [intOf]; omega
    · obtain rfl : i = n := by omega
      have hltI : ¬ (i : Int) < (i : Int) := by omega
      rw [List.take_of_length_le (Nat.le_of_eq HX.out.2)] at hR
      have HS : Hid (CertS wr u3 Y ∧ RelC wr Z Y ∧ Below w.heap.size w wr) := ⟨MRow.certs (B := w.heap.size) (by rw [hR.1, HX.out.2]; exact hM), hR, hbl⟩
      clear hM hM0 hR hbl
      go_wp2
      go_ret
      exact ⟨_, rfl, Y, HS.out⟩
end Go.Proofs.YtkjdihikcgpababDoor
