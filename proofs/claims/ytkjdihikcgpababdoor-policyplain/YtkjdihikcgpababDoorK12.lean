/-
  Policy: one more certificate, the last one.
-/
import Derived.Test.YtkjdihikcgpababDoorK11
namespace Go.Proofs.YtkjdihikcgpababDoor
open Go.RowKit Go.Sort Go.Lib
/-- What Step tells. -/
def StepOut (w : World) (e : Ending) (q : Po × Bool) : Prop := ∃ r, e = .returned (.tuple #[.agg #[r, .int .i64 q.1.e, .int .i64 q.1.a], .bool q.2]) ∧ TxS w r q.1.S
theorem wp_genP {P : Program} {c : Code} {Q : Exit → Act → World → Prop} {a : Act} {W : World} (R : World → Prop) (hR : R W) (h : ∀ W', R W' → Code.wp P c Q a W') : Code.wp P c Q a W := h W hR
/-- A function with two results, the first in a block of its own. -/
theorem results_blk2P {P : Program} {fn : Func} {T : TypeId} {t u : Tmp} (h : fn.results = #[.cell t T, .tmp u]) {a : Array Value} {w : World} {b : Nat} {cs : List Value} {d : TypeDesc} {v : Value} (ha : a.getD t undef = .pointer (some ⟨b, 0, none⟩))
    (hb : Blk T w b cs) (hu : P.underlying T = some d) (hd : d.isRow = true) (hi : (P.info? T).map (·.size) = some cs.length) (hv : a.getD u undef = v) : (results fn a).run P w = .ok (.tuple #[.agg cs.toArray, v]) w := by
  have := run_loadVar_mid (P := P) w b 0 T cs d hb.whole hu hd hi
  have ha' : a[t]?.getD undef = .pointer (some ⟨b, 0, none⟩) := by simpa using ha
  have hv' : a[u]?.getD undef = v := by simpa using hv
  simp [results, h, ha', asAddr, this, hv']
theorem Upd.cellO {w w' : World} {b : Nat} (h : Upd w w' b) {p : Addr} (hp : p.block < w.heap.size) (hne : p.block ≠ b) : w'.cell? p = w.cell? p :=
  World.cell?_of_block (w := w) (h.block p.block hp (fun e => hne (by injection e)))
/-- Texts stay where another row, which holds none, is written. -/
theorem TxS.upd {w w' : World} {v : Value} {L : List Tx} (h : TxS w v L) {T : TypeId} {b : Nat} {cs : List Value} (hA : Blk T w b cs) (hn : ∀ s : Tx, encStr s ∉ cs) (hU : Upd w w' b) : TxS w' v L := by
  obtain ⟨⟨a, c, h1, h2, h3⟩, h4⟩ := h
  refine ⟨⟨a, c, h1, h2, ?_⟩, h4⟩
  rcases h3 with h3 | ⟨b1, off, h6, h7, h8⟩
  · exact .inl h3
  · refine .inr ⟨b1, off, h6, Nat.lt_of_lt_of_le h7 hU.size, fun i hi => ?_⟩
    rw [hU.cellO (p := ⟨b1, off + i, none⟩) h7 (fun e => ?_), h8 i hi]
    have e : b1 = b := e
    subst e
    have h9 := h8 i hi
    rw [hA.cell] at h9
    exact hn _ (List.mem_of_getElem? h9)
theorem box_no (a : Option Addr) (n c : Nat) (e m : Int) (s : Tx) : encStr s ∉ [Value.slice a n c, .int .i64 e, .int .i64 m] := by simp
theorem one3 (a : Option Addr) (n c : Nat) (e m : Int) : (#[Value.slice a n c, .int .i64 e, .int .i64 m]).all (·.oneCell') = true := by simp [Value.oneCell']
theorem TxS.slice {w : World} {v : Value} {L : List Tx} (h : TxS w v L) : ∃ a n c, v = .slice a n c := by obtain ⟨a, c, h1, _⟩ := h.form; exact ⟨a, _, c, h1⟩
set_option maxRecDepth 20000 in
set_option maxHeartbeats 4000000 in
theorem Step_last {w : World} (u : Value) (pe pa : Int) (ci cs cp : Value) (cr ch : Int) (S L : List Tx) (o : Bool) (hu : TxS w u S) (hc : TxS w cp L) (hS : S.length ≤ 524288) (hL : L.length ≤ 524288) :
    Calls Tryd.prog 11 #[.agg #[u, .int .i64 pe, .int .i64 pa], .agg #[.slice none 0 0, .slice none 0 0, .slice none 0 0, ci, cs, .int .i64 0, .int .i64 0, .int .i64 0, .slice none 0 0, .slice none 0 0, .slice none 0 0, .slice none 0 0, .int .i64 0, .int .i64 0, .int .i64 0, .int .i64 0, .slice none 0 0, .bool false, .int .i64 0, .int .i64 0, .slice none 0 0, .bool false, .slice none 0 0, .slice none 0 0, .slice none 0 0, cp, .int .i64 cr, .int .i64 ch, .slice none 0 0, .slice none 0 0, .bool false], .bool true] w fun e w' => StepOut w' e (stepP ⟨S, pe, pa⟩ ⟨L, cr, ch, o⟩ true) ∧ Below w.heap.size w w' := by
  obtain ⟨ua, un, uc, rfl⟩ := hu.slice
  obtain ⟨s, hs⟩ : ∃ s, heldS S L (decide (0 < pa)) = s := ⟨_, rfl⟩
  obtain ⟨O, hO⟩ : ∃ O, stepP ⟨S, pe, pa⟩ ⟨L, cr, ch, o⟩ true = O := ⟨_, rfl⟩
  rw [hO]
  have HE : Hid ((if s = [] ∧ pe ≤ 0 then (⟨[], 0, 0⟩, false) else (⟨s, pe, pa⟩, true) : Po × Bool) = O) := by
    show _ = _
    rw [← hO]
    unfold stepP
    simp only [Bool.not_true, Bool.false_and, Bool.or_false, hs, if_true]
  clear hO
  have HH : Hid (∀ w1 : World, Below w.heap.size w w1 → Calls Tryd.prog 15 #[.agg #[.slice ua un uc, .int .i64 pe, .int .i64 pa], .agg #[.slice none 0 0, .slice none 0 0, .slice none 0 0, ci, cs, .int .i64 0, .int .i64 0, .int .i64 0, .slice none 0 0, .slice none 0 0, .slice none 0 0, .slice none 0 0, .int .i64 0, .int .i64 0, .int .i64 0, .int .i64 0, .slice none 0 0, .bool false, .int .i64 0, .int .i64 0, .slice none 0 0, .bool false, .slice none 0 0, .slice none 0 0, .slice none 0 0, cp, .int .i64 cr, .int .i64 ch, .slice none 0 0, .slice none 0 0, .bool false], .bool true] w1 fun e w' => ∃ r, e = .returned r ∧ TxS w' r s ∧ Below w1.heap.size w1 w') := fun w1 h => by
    have := held_any (w := w1) (.slice ua un uc) pe pa ci cs cp cr ch true o S L (hu.below h) (hc.below h) hS hL (fun h => by cases h)
    rw [show (decide (0 < pa) || (!true && o)) = decide (0 < pa) by simp, hs] at this
    exact this
  obtain ⟨g, hg⟩ : ∃ g, s.length = g := ⟨_, rfl⟩
  have HF : Hid (∀ (w1 : World) (r : Value), TxS w1 r s → ∃ a c, r = .slice a g c) := fun w1 r h => by obtain ⟨a, c, h1, _⟩ := h.form; exact ⟨a, c, by rw [h1, hg]⟩
  have HX : Hid (s.length = g) := hg
  clear hu hc hS hL hs hg
  obtain ⟨W0, hW0⟩ : ∃ W0 : World, ((w.alloc (.cells #[.slice ua un uc, .int .i64 pe, .int .i64 pa] 36)).alloc (.cells #[.slice none 0 0, .slice none 0 0, .slice none 0 0, ci, cs, .int .i64 0, .int .i64 0, .int .i64 0, .slice none 0 0, .slice none 0 0, .slice none 0 0, .slice none 0 0, .int .i64 0, .int .i64 0, .int .i64 0, .int .i64 0, .slice none 0 0, .bool false, .int .i64 0, .int .i64 0, .slice none 0 0, .bool false, .slice none 0 0, .slice none 0 0, .slice none 0 0, cp, .int .i64 cr, .int .i64 ch, .slice none 0 0, .slice none 0 0, .bool false] 51)).alloc (.cells #[.slice none 0 0, .int .i64 0, .int .i64 0] 36) = W0 := ⟨_, rfl⟩
  have HW : Hid (Below w.heap.size w W0 ∧ Blk 36 W0 w.heap.size [.slice ua un uc, .int .i64 pe, .int .i64 pa] ∧ Blk 51 W0 (w.heap.size + 1) [.slice none 0 0, .slice none 0 0, .slice none 0 0, ci, cs, .int .i64 0, .int .i64 0, .int .i64 0, .slice none 0 0, .slice none 0 0, .slice none 0 0, .slice none 0 0, .int .i64 0, .int .i64 0, .int .i64 0, .int .i64 0, .slice none 0 0, .bool false, .int .i64 0, .int .i64 0, .slice none 0 0, .bool false, .slice none 0 0, .slice none 0 0, .slice none 0 0, cp, .int .i64 cr, .int .i64 ch, .slice none 0 0, .slice none 0 0, .bool false] ∧ Blk 36 W0 (w.heap.size + 2) [.slice none 0 0, .int .i64 0, .int .i64 0] ∧ w.heap.size + 3 ≤ W0.heap.size) := by
    rw [← hW0]
    have h1 := Blk.new 51 (w.alloc (.cells #[.slice ua un uc, .int .i64 pe, .int .i64 pa] 36)) [.slice none 0 0, .slice none 0 0, .slice none 0 0, ci, cs, .int .i64 0, .int .i64 0, .int .i64 0, .slice none 0 0, .slice none 0 0, .slice none 0 0, .slice none 0 0, .int .i64 0, .int .i64 0, .int .i64 0, .int .i64 0, .slice none 0 0, .bool false, .int .i64 0, .int .i64 0, .slice none 0 0, .bool false, .slice none 0 0, .slice none 0 0, .slice none 0 0, cp, .int .i64 cr, .int .i64 ch, .slice none 0 0, .slice none 0 0, .bool false]
    rw [show (w.alloc (.cells #[.slice ua un uc, .int .i64 pe, .int .i64 pa] 36)).heap.size = w.heap.size + 1 by simp] at h1
    have h2 := Blk.new 36 ((w.alloc (.cells #[.slice ua un uc, .int .i64 pe, .int .i64 pa] 36)).alloc (.cells #[.slice none 0 0, .slice none 0 0, .slice none 0 0, ci, cs, .int .i64 0, .int .i64 0, .int .i64 0, .slice none 0 0, .slice none 0 0, .slice none 0 0, .slice none 0 0, .int .i64 0, .int .i64 0, .int .i64 0, .int .i64 0, .slice none 0 0, .bool false, .int .i64 0, .int .i64 0, .slice none 0 0, .bool false, .slice none 0 0, .slice none 0 0, .slice none 0 0, cp, .int .i64 cr, .int .i64 ch, .slice none 0 0, .slice none 0 0, .bool false] 51)) [.slice none 0 0, .int .i64 0, .int .i64 0]
    rw [show ((w.alloc (.cells #[.slice ua un uc, .int .i64 pe, .int .i64 pa] 36)).alloc (.cells #[.slice none 0 0, .slice none 0 0, .slice none 0 0, ci, cs, .int .i64 0, .int .i64 0, .int .i64 0, .slice none 0 0, .slice none 0 0, .slice none 0 0, .slice none 0 0, .int .i64 0, .int .i64 0, .int .i64 0, .int .i64 0, .slice none 0 0, .bool false, .int .i64 0, .int .i64 0, .slice none 0 0, .bool false, .slice none 0 0, .slice none 0 0, .slice none 0 0, cp, .int .i64 cr, .int .i64 ch, .slice none 0 0, .slice none 0 0, .bool false] 51)).heap.size = w.heap.size + 2 by simp] at h2
    exact ⟨al3 w _ _ _, ((Blk.new 36 w [.slice ua un uc, .int .i64 pe, .int .i64 pa]).alloc _).alloc _, h1.alloc _, h2, by simp⟩
  go_enter Tryd.func11, Tryd.ntmps11
  go_upto_region 2 with (first
    | (refine wpList_load_mid rfl 36 (.tmp 3) rfl w.heap.size 0 rfl [.slice ua un uc, .int .i64 pe, .int .i64 pa] _ HW.out.2.1.whole Tryd.underlying36 rfl szPo ?_)
    | (refine wpList_load_mid rfl 51 (.tmp 4) rfl (w.heap.size + 1) 0 rfl [.slice none 0 0, .slice none 0 0, .slice none 0 0, ci, cs, .int .i64 0, .int .i64 0, .int .i64 0, .slice none 0 0, .slice none 0 0, .slice none 0 0, .slice none 0 0, .int .i64 0, .int .i64 0, .int .i64 0, .int .i64 0, .slice none 0 0, .bool false, .int .i64 0, .int .i64 0, .slice none 0 0, .bool false, .slice none 0 0, .slice none 0 0, .slice none 0 0, cp, .int .i64 cr, .int .i64 ch, .slice none 0 0, .slice none 0 0, .bool false] _ HW.out.2.2.1.whole Tryd.underlying51 rfl szC ?_)
    | (go_at_call 15; refine (HH.out _ HW.out.1).mono ?_; rintro e w2 ⟨r, rfl, hr, hb2⟩; obtain ⟨ra, rc, rfl⟩ := HF.out _ _ hr; have HA : Hid (Blk 36 w2 w.heap.size [.slice ua un uc, .int .i64 pe, .int .i64 pa] ∧ Blk 36 w2 (w.heap.size + 2) [.slice none 0 0, .int .i64 0, .int .i64 0] ∧ Below w.heap.size w w2) := ⟨below_blk hb2 HW.out.2.1.lt HW.out.2.1, below_blk hb2 HW.out.2.2.2.1.lt HW.out.2.2.2.1, HW.out.1.trans (hb2.mono HW.out.1.size)⟩; have c0 : w2.cell? ⟨w.heap.size, 0, none⟩ = some (.slice ua un uc) := HA.out.1.cell 0; have f0 := HA.out.1.frozen 0)
    | go_in)
  refine wp_genP (fun W => Blk 36 W w.heap.size [.slice ra g rc, .int .i64 pe, .int .i64 pa] ∧ Blk 36 W (w.heap.size + 2) [.slice none 0 0, .int .i64 0, .int .i64 0] ∧ TxS W (.slice ra g rc) s ∧ Below w.heap.size w W) ⟨HA.out.1.set 0 _, (Upd.set w2 w.heap.size 0 _).blk HA.out.2.1 (by omega), hr.upd HA.out.1 (box_no _ _ _ _ _) (Upd.set w2 w.heap.size 0 _), (Upd.set w2 w.heap.size 0 _).below HA.out.2.2 HA.out.2.2.size (Nat.le_refl _)⟩ ?_
  rintro W ⟨g1, g2, g3, g4⟩
  have HQ : Hid (Blk 36 W w.heap.size [.slice ra g rc, .int .i64 pe, .int .i64 pa] ∧ Blk 36 W (w.heap.size + 2) [.slice none 0 0, .int .i64 0, .int .i64 0] ∧ TxS W (.slice ra g rc) s ∧ Below w.heap.size w W) := ⟨g1, g2, g3, g4⟩
  have c1 : W.cell? ⟨w.heap.size, 0, none⟩ = some (.slice ra g rc) := g1.cell 0
  have c2 : W.cell? ⟨w.heap.size, 1, none⟩ = some (.int .i64 pe) := g1.cell 1
  have HT : Hid (∀ c0 : List Value, c0.length = 3 → Blk 36 (W.setCells (w.heap.size + 2) 0 c0) (w.heap.size + 2) c0 ∧ Below w.heap.size w (W.setCells (w.heap.size + 2) 0 c0) ∧ TxS (W.setCells (w.heap.size + 2) 0 c0) (.slice ra g rc) s) := fun c0 h0 => by
    have hU := Upd.setCells (b := w.heap.size + 2) c0 0 W
    exact ⟨g2.fill c0 (by simpa using h0), hU.below g4 g4.size (by omega), g3.upd g2 (box_no _ _ _ _ _) hU⟩
  clear hr HA f0 c0 hb2 g1 g2 g3 g4 hW0
  have hO := HE.out
  clear HE
  by_cases hz : g = 0
  · subst hz
    have HN : Hid (s = []) := List.eq_nil_of_length_eq_zero HX.out
    by_cases hl : pe ≤ 0
    · rw [if_pos ⟨HN.out, hl⟩] at hO
      subst hO
      go_wp2_with (first
        | (refine wpList_store_mid rfl 36 (.tmp 6) (.tmp 22) rfl (w.heap.size + 2) 0 #[.slice none 0 0, .int .i64 0, .int .i64 0] rfl rfl (HQ.out.2.1.there 0 3 (by simp)) szPo (one3 _ _ _ _ _) ?_)
        | go_in)
      have hT := HT.out [.slice none 0 0, .int .i64 0, .int .i64 0] rfl
      refine bodyPost_ret (results_blk2P rfl rfl hT.1 Tryd.underlying36 rfl szPo rfl) rfl ⟨⟨_, rfl, TxS.nil _⟩, hT.2.1⟩
    · rw [if_neg (fun h => hl h.2)] at hO
      subst hO
      go_wp2_with (first
        | (refine wpList_load_mid rfl 36 (.tmp 3) rfl w.heap.size 0 rfl [.slice ra 0 rc, .int .i64 pe, .int .i64 pa] _ HQ.out.1.whole Tryd.underlying36 rfl szPo ?_)
        | (refine wpList_store_mid rfl 36 (.tmp 6) (.tmp 24) rfl (w.heap.size + 2) 0 #[.slice ra 0 rc, .int .i64 pe, .int .i64 pa] rfl rfl (HQ.out.2.1.there 0 3 (by simp)) szPo (one3 _ _ _ _ _) ?_)
        | go_in)
      have hT := HT.out [.slice ra 0 rc, .int .i64 pe, .int .i64 pa] rfl
      refine bodyPost_ret (results_blk2P rfl rfl hT.1 Tryd.underlying36 rfl szPo rfl) rfl ⟨⟨_, rfl, hT.2.2⟩, hT.2.1⟩
  · have hgz : ((g : Int) == 0) = false := by simpa using hz
    have hgn : ¬ (g : Int) = 0 := by omega
    rw [if_neg (fun h => hz (by rw [← HX.out, h.1]; rfl))] at hO
    subst hO
    go_wp2_with (first
      | (refine wpList_load_mid rfl 36 (.tmp 3) rfl w.heap.size 0 rfl [.slice ra g rc, .int .i64 pe, .int .i64 pa] _ HQ.out.1.whole Tryd.underlying36 rfl szPo ?_)
      | (refine wpList_store_mid rfl 36 (.tmp 6) (.tmp 24) rfl (w.heap.size + 2) 0 #[.slice ra g rc, .int .i64 pe, .int .i64 pa] rfl rfl (HQ.out.2.1.there 0 3 (by simp)) szPo (one3 _ _ _ _ _) ?_)
      | go_in)
    have hT := HT.out [.slice ra g rc, .int .i64 pe, .int .i64 pa] rfl
    refine bodyPost_ret (results_blk2P rfl rfl hT.1 Tryd.underlying36 rfl szPo rfl) rfl ⟨⟨_, rfl, hT.2.2⟩, hT.2.1⟩
end Go.Proofs.YtkjdihikcgpababDoor
