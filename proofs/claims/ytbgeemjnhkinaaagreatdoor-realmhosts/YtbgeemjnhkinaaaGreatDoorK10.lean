/-
  Realm: Net.
-/
import Derived.Deep.MidRow
import Derived.Test.YtbgeemjnhkinaaaGreatDoorK9
namespace Go.Proofs.YtbgeemjnhkinaaaGreatDoor
open Go.RowKit
attribute [local go_sem] Oper.semAt_some
theorem wp_gen {P : Program} {c : Code} {Q : Exit → Act → World → Prop} {a : Act} {W : World} (R : World → Prop) (hR : R W) (h : ∀ W', R W' → Code.wp P c Q a W') : Code.wp P c Q a W := h W hR
/-- Of the net? -/
def netB (X B : List Int) : Bool := decide (X.length ≠ 0 ∧ B.length = 2 * X.length ∧ ∀ i, i < X.length → andV (X.getD i 0) (B.getD (X.length + i) 0) = andV (B.getD i 0) (B.getD (X.length + i) 0))
theorem results_cell1 {fn : Func} {t : Tmp} (h : fn.results = #[.cell t 4]) (tmps : Array Value) (w : World) {b : Nat} {q : Bool} (ht : tmps.getD t undef = .pointer (some ⟨b, 0, none⟩)) (hc : w.cell? ⟨b, 0, none⟩ = some (.bool q)) :
    (results fn tmps).run Tryz.prog w = .ok (.bool q) w := by
  have e0 : ∀ W : World, (asAddr (.pointer (some ⟨b, 0, none⟩))).run Tryz.prog W = .ok ⟨b, 0, none⟩ W := fun W => rfl
  have ht' : tmps[t]?.getD undef = .pointer (some ⟨b, 0, none⟩) := by rw [← Array.getD_eq_getD_getElem?]; exact ht
  simp [results, h, ht', go_sem, hc]
set_option maxRecDepth 20000 in
set_option maxHeartbeats 4000000 in
theorem Net_no {w : World} (n m : Nat) (xa ba : Option Addr) (xc bc : Nat) (lX : n ≤ 1000000) (hg : n = 0 ∨ m ≠ 2 * n) :
    Calls Tryz.prog 9 #[.slice xa n xc, .slice ba m bc] w fun e w' => e = .returned (.bool false) ∧ Below w.heap.size w w' := by
  have HB : Hid (∀ v : Value, Below w.heap.size w ((w.alloc (.cells #[.slice xa n xc] 24)).alloc (.cells #[v] 4))) := fun v => by
    exact (al1 _).alloc (al1 _).size _
  have HC : Hid (∀ v : Value, ((w.alloc (.cells #[.slice xa n xc] 24)).alloc (.cells #[v] 4)).cell? ⟨w.heap.size + 1, 0, none⟩ = some v) := fun v => by
    have h := Blk.new 4 (w.alloc (.cells #[.slice xa n xc] 24)) [v]
    have := h.cell 0; simp only [World.size_alloc] at this; exact this
  have h2 : IntKind.i64.wrap (2 * (n : Int)) = 2 * (n : Int) := by rw [IntKind.wrap_i64]; omega
  refine (callsIn_wide (n := 10)).1 (callsIn_of_wp_marks Tryz.func9 rfl trivial (wpIn_wide.2 ?_) rfl)
  simp only [Tryz.ntmps9, List.size_toArray, List.length_cons, List.length_nil, Nat.reduceAdd, Nat.reduceSub, Array.replicate_succ, Array.replicate_zero, List.push_toArray, List.append_toArray, List.nil_append, List.cons_append]
  by_cases h0 : n = 0
  · subst h0
    go_wp2
    exact ⟨_, results_cell1 (b := w.heap.size + 1) (q := false) rfl _ _ rfl (HC.out _), rfl, HB.out _⟩
  · have h01 : ((n : Int) == 0) = false := by simp; omega
    have h02 : ((m : Int) != 2 * (n : Int)) = true := by simp; omega
    go_wp2
    exact ⟨_, results_cell1 (b := w.heap.size + 1) (q := false) rfl _ _ rfl (HC.out _), rfl, HB.out _⟩
set_option maxHeartbeats 1000000 in
theorem masked_any {w : World} (xa ma : Option Addr) (n xc m mc : Nat) : Calls Tryz.prog 18 #[.slice xa n xc, .slice ma m mc] w fun e w' => e = .returned (.func (.func 25) #[] #[.pointer (some ⟨w.heap.size, 0, none⟩), .pointer (some ⟨w.heap.size + 1, 0, none⟩)]) ∧
    w' = (w.alloc (.cells #[.slice xa n xc] 24)).alloc (.cells #[.slice ma m mc] 24) := by
  go_enter Tryz.func18, Tryz.ntmps18
  go_wp2
  go_ret
  exact ⟨by simp, rfl⟩
theorem run_slhi {a : Act} {W : World} {o : Oper} {x z : Operand} (hop : o.op = .slice 24 x none (some z) none) {b off m n c : Nat} (hx : a.eval x = .slice (some ⟨b, off, none⟩) m c) (hz : a.eval z = .int .i64 (n : Int)) (hn : (n : Int) ≤ (c : Int)) :
    (execOp a.eval o).run Tryz.prog W = .ok (.value (.slice (some ⟨b, off, none⟩) n c)) W := by
  unfold execOp
  simp only [hop, Option.map_some, Option.map_none, hx, hz]
  simp [go_sem, hn]
theorem eg_masked (args : Array Value) (w : World) : (callFunc 18 args).run Tryz.prog w = .ok (.enter 18 args) w := enters_of Tryz.func18 (by kernel_rfl) rfl args w
theorem frF5a {ops : Array Oper} {V : Nat → Value} {t : Array Value} {d0 d1 d2 d3 d4 : Nat} (hs : ops.size = 5) (h0 : dstOf ops 0 = some d0) (h1 : dstOf ops 1 = some d1) (h2 : dstOf ops 2 = some d2) (h3 : dstOf ops 3 = some d3) (h4 : dstOf ops 4 = some d4) :
    frF ops V t ops.size = ((((t.setIfInBounds d0 (V 0)).setIfInBounds d1 (V 1)).setIfInBounds d2 (V 2)).setIfInBounds d3 (V 3)).setIfInBounds d4 (V 4) := by
  rw [hs]
  simp only [frF, h0, h1, h2, h3, h4]
theorem frF11a {ops : Array Oper} {V : Nat → Value} {t : Array Value} {d0 d1 d2 d3 d4 d5 d6 d7 d8 d9 d10 : Nat} (hs : ops.size = 11) (h0 : dstOf ops 0 = some d0) (h1 : dstOf ops 1 = some d1) (h2 : dstOf ops 2 = some d2) (h3 : dstOf ops 3 = some d3) (h4 : dstOf ops 4 = some d4) (h5 : dstOf ops 5 = some d5) (h6 : dstOf ops 6 = some d6) (h7 : dstOf ops 7 = some d7) (h8 : dstOf ops 8 = some d8) (h9 : dstOf ops 9 = some d9) (h10 : dstOf ops 10 = some d10) :
    frF ops V t ops.size = ((((((((((t.setIfInBounds d0 (V 0)).setIfInBounds d1 (V 1)).setIfInBounds d2 (V 2)).setIfInBounds d3 (V 3)).setIfInBounds d4 (V 4)).setIfInBounds d5 (V 5)).setIfInBounds d6 (V 6)).setIfInBounds d7 (V 7)).setIfInBounds d8 (V 8)).setIfInBounds d9 (V 9)).setIfInBounds d10 (V 10) := by
  rw [hs]
  simp only [frF, h0, h1, h2, h3, h4, h5, h6, h7, h8, h9, h10]
theorem blk_put {A : World} {k : Nat} (o' : Obj) {T : TypeId} {b : Nat} {cs : List Value} (hb : b ≠ k) (h : Blk T A b cs) : Blk T (A.putObj k o') b cs := by
  unfold Blk; rw [World.putObj_heap_other hb]; exact h
theorem below_putW' {g : Nat} {w A : World} {k : Nat} (o' : Obj) (hl : g ≤ k) (h : Below g w A) : Below g w (A.putObj k o') :=
  h.trans ⟨rfl, rfl, rfl, by simp [World.putObj], fun k1 hk1 => World.putObj_heap_other (by omega)⟩
theorem sl_at {w : World} {b o n c : Nat} {xs : List Int} (h : Sl .u8 w (.slice (some ⟨b, o, none⟩) n c) xs) (i : Nat) (hi : i < xs.length) : w.cell? ⟨b, o + i, none⟩ = some (.int .u8 (xs.getD i 0)) := by
  obtain ⟨a, c', e, -, f⟩ := h.form6
  cases e
  obtain ⟨b', o', e', hc⟩ := f i hi
  cases e'
  exact hc
theorem sl_take {w : World} {b o m c : Nat} {xs : List Int} (h : Sl .u8 w (.slice (some ⟨b, o, none⟩) m c) xs) (k : Nat) (hk : k ≤ m) : Sl .u8 w (.slice (some ⟨b, o, none⟩) k c) (xs.take k) := by
  obtain ⟨a', c', h1, hc, h⟩ := h
  simp only [Value.slice.injEq] at h1
  obtain ⟨rfl, rfl, rfl⟩ := h1
  have hl : (xs.take k).length = k := by rw [List.length_take]; omega
  refine ⟨_, c, by rw [hl], by rw [hl]; omega, ?_⟩
  rcases h with rfl | ⟨bb, off, e, hb, hr⟩
  · left; simp
  · right; exact ⟨bb, off, e, hb, hr.take k⟩
theorem sl_drop {w : World} {b o n c : Nat} {xs : List Int} (h : Sl .u8 w (.slice (some ⟨b, o, none⟩) (2 * n) c) xs) (k : Nat) (hk : xs.length = k + n) (h0 : 0 < n) : Sl .u8 w (.slice (some ⟨b, o + k, none⟩) n (c - k)) (xs.drop k) := by
  obtain ⟨a', c', h1, hc, h⟩ := h
  simp only [Value.slice.injEq] at h1
  obtain ⟨rfl, h2, rfl⟩ := h1
  have hl : (xs.drop k).length = n := by rw [List.length_drop]; omega
  refine ⟨_, c - k, by rw [hl], by rw [hl]; omega, .inr ?_⟩
  rcases h with rfl | ⟨bb, oo, e, hb, hr⟩
  · simp at hk; omega
  · cases e
    refine ⟨b, o + k, rfl, hb, fun i hi => ?_⟩
    rw [hl] at hi
    have := hr (k + i) (by omega)
    rw [show o + k + i = o + (k + i) by omega, this]
    simp [List.getD_eq_getElem?_getD, List.getElem?_drop]
/-- What it asks, of lists of the lengths that are wanted. -/
def NetB' (X B : List Int) (n : Nat) (R : Bool) : Prop := ((∃ i, i < n ∧ andV (X.getD i 0) (B.getD (n + i) 0) ≠ andV (B.getD i 0) (B.getD (n + i) 0)) → R = false) ∧ ((∀ i, i < n → andV (X.getD i 0) (B.getD (n + i) 0) = andV (B.getD i 0) (B.getD (n + i) 0)) → R = true)
theorem netB_of {X B : List Int} {n : Nat} (hn : X.length = n) (hm : B.length = 2 * n) (n0 : 0 < n) : NetB' X B n (netB X B) := by
  unfold NetB' netB
  rw [hn, hm]
  refine ⟨?_, fun h => decide_eq_true ⟨by omega, rfl, h⟩⟩
  rintro ⟨i, hi, h⟩
  exact decide_eq_false fun k => h (k.2.2 i hi)
/-- Between two rounds: nothing that differs was met. -/
def NetI (w : World) (g b1 o1 b2 o2 n xc bc : Nat) (X B : List Int) (mk : Value) (i : Nat) (A : World) : Prop :=
  g + 5 ≤ A.heap.size ∧ Blk 24 A g [.slice (some ⟨b1, o1, none⟩) n xc] ∧ Blk 4 A (g + 1) [.bool false] ∧ Blk 24 A (g + 2) [mk] ∧ Blk 24 A (g + 3) [.slice (some ⟨b2, o2, none⟩) n bc] ∧ Blk 24 A (g + 4) [mk] ∧ Below g w A ∧
  ∀ j, j < i → andV (X.getD j 0) (B.getD (n + j) 0) = andV (B.getD j 0) (B.getD (n + j) 0)
/-- One that differs was met. -/
def NetX (w : World) (g : Nat) (A : World) : Prop := Blk 4 A (g + 1) [.bool false] ∧ Below g w A
set_option maxRecDepth 20000 in
set_option maxHeartbeats 4000000 in
theorem Net_yes {w : World} (n b1 o1 b2 o2 xc bc : Nat) (X B : List Int) (hX : Sl .u8 w (.slice (some ⟨b1, o1, none⟩) n xc) X) (hB : Sl .u8 w (.slice (some ⟨b2, o2, none⟩) (2 * n) bc) B) (hn : X.length = n) (hm : B.length = 2 * n) (n0 : 0 < n) (hbc : 2 * n ≤ bc) (lX : n ≤ 1000000) :
    Calls Tryz.prog 9 #[.slice (some ⟨b1, o1, none⟩) n xc, .slice (some ⟨b2, o2, none⟩) (2 * n : Nat) bc] w fun e w' => e = .returned (.bool (netB X B)) ∧ Below w.heap.size w w' := by
  have HX : Hid (Sl .u8 w (.slice (some ⟨b1, o1, none⟩) n xc) X ∧ Sl .u8 w (.slice (some ⟨b2, o2, none⟩) (2 * n) bc) B ∧ X.length = n ∧ B.length = 2 * n) := ⟨hX, hB, hn, hm⟩
  obtain ⟨R, hR⟩ : ∃ R, netB X B = R := ⟨_, rfl⟩
  have HN : Hid (NetB' X B n R) := hR ▸ netB_of hn hm n0
  rw [hR]
  obtain ⟨m, hmm⟩ : ∃ m, 2 * n = m := ⟨_, rfl⟩
  rw [hmm] at hbc ⊢
  clear hX hB hn hm hR
  have h2 : IntKind.i64.wrap (2 * (n : Int)) = 2 * (n : Int) := by rw [IntKind.wrap_i64]; omega
  have h01 : ((n : Int) == 0) = false := by simp; omega
  have h02 : ((m : Int) != 2 * (n : Int)) = false := by simp; omega
  have c1 : (n : Int) ≤ (m : Int) := by omega
  have c2 : (m : Int) ≤ (bc : Int) := by omega
  have c3 : (n : Int) ≤ (bc : Int) := by omega
  have c4 : ¬ bc = n := by omega
  have c5 : ¬ n = 0 := by omega
  refine (callsIn_wide (n := 10)).1 (callsIn_of_wp_marks Tryz.func9 rfl trivial (wpIn_wide.2 ?_) rfl)
  simp only [Tryz.ntmps9, List.size_toArray, List.length_cons, List.length_nil, Nat.reduceAdd, Nat.reduceSub, Array.replicate_succ, Array.replicate_zero, List.push_toArray, List.append_toArray, List.nil_append, List.cons_append]
  go_upto_region 5 with (fail)
  obtain ⟨g, hg⟩ : ∃ g, w.heap.size = g := ⟨_, rfl⟩
  obtain ⟨mk, hmk⟩ : ∃ mk, Value.slice (some ⟨b2, o2 + n, none⟩) (m - n) (bc - n) = mk := ⟨_, rfl⟩
  rw [hmk]
  rw [hg]
  refine wp_gen (fun W => W.heap.size = g + 3 ∧ Blk 24 W g [.slice (some ⟨b1, o1, none⟩) n xc] ∧ Blk 4 W (g + 1) [.bool false] ∧ Blk 24 W (g + 2) [mk] ∧ Below g w W) ?_ ?_
  · have k0 := ((Blk.new 24 w [.slice (some ⟨b1, o1, none⟩) n xc]).alloc (.cells #[.bool false] 4)).alloc (.cells #[mk] 24)
    have k1 := (Blk.new 4 (w.alloc (.cells #[.slice (some ⟨b1, o1, none⟩) n xc] 24)) [.bool false]).alloc (.cells #[mk] 24)
    have k2 := Blk.new 24 ((w.alloc (.cells #[.slice (some ⟨b1, o1, none⟩) n xc] 24)).alloc (.cells #[.bool false] 4)) [mk]
    have hb := ((al1 (w := w) (.cells #[.slice (some ⟨b1, o1, none⟩) n xc] 24)).alloc (al1 _).size (.cells #[.bool false] 4)).alloc ((al1 (w := w) (.cells #[.slice (some ⟨b1, o1, none⟩) n xc] 24)).alloc (al1 _).size (.cells #[.bool false] 4)).size (.cells #[mk] 24)
    simp only [World.size_alloc, hg] at k0 k1 k2 hb
    exact ⟨by simp [hg], k0, k1, k2, hb⟩
  rintro W ⟨hs, hb0, hb1, hb2, hbl⟩
  have HW : Hid (W.heap.size = g + 3 ∧ Blk 24 W g [.slice (some ⟨b1, o1, none⟩) n xc] ∧ Blk 4 W (g + 1) [.bool false] ∧ Blk 24 W (g + 2) [mk] ∧ Below g w W) := ⟨hs, hb0, hb1, hb2, hbl⟩
  clear hs hb0 hb1 hb2 hbl
  refine wp_region_cl (β := Unit) (fun _ k => ([.slice (some ⟨b2, o2, none⟩) m bc, .int .i64 (n : Int), .slice (some ⟨b2, o2, none⟩) n bc, mk, .func (.func 25) #[] #[.pointer (some ⟨g + 3, 0, none⟩), .pointer (some ⟨g + 4, 0, none⟩)]] : List Value).getD k undef)
    (fun _ L V => StS 4 (fun V => V.heap.size = g + 5 ∧ Blk 24 V (g + 3) [.slice (some ⟨b2, o2, none⟩) n bc] ∧ Blk 24 V (g + 4) [mk]) (fun V => V.heap.size = g + 3) (fun V => Below (g + 3) W V) L V) () rfl (by decide +kernel) (show dstB _ 41 = true by decide +kernel)
    (StS.start (by show W.drew.heap.size = g + 3; exact HW.out.1) (by have := (Below.refl W.heap.size W).drew; rw [HW.out.1] at this; exact this)) (fun _ L V hup hS => ?_) (fun i _ L V a hi hno hsz hdep hv h0 hcl hS => ?_)
  rotate_left
  · replace hi : i < 5 := hi
    obtain rfl | rfl | rfl | rfl | rfl : i = 0 ∨ i = 1 ∨ i = 2 ∨ i = 3 ∨ i = 4 := by omega
    · have x0 : a.eval (.tmp 1) = .slice (some ⟨b2, o2, none⟩) m bc := (h0 1 (by decide +kernel)).trans rfl
      exact rg_val rfl (wn_any rfl) (run_mv rfl x0) (hS.other (by decide))
    · have x0 : a.eval (.tmp 5) = .int .i64 (n : Int) := (h0 5 (by decide +kernel)).trans rfl
      exact rg_val rfl (wn_any rfl) (run_mv rfl x0) (hS.other (by decide))
    · have e0 : a.eval (.tmp 23) = .slice (some ⟨b2, o2, none⟩) m bc := hv 0 _ (show 0 < 5 by decide) (hdep 0 (by decide +kernel)) rfl
      have e1 : a.eval (.tmp 24) = .int .i64 (n : Int) := hv 1 _ (show 1 < 5 by decide) (hdep 1 (by decide +kernel)) rfl
      exact rg_val rfl (wn_any rfl) (run_slhi rfl e0 e1 c3) (hS.other (by decide))
    · have x6 : a.eval (.tmp 6) = .pointer (some ⟨g + 2, 0, none⟩) := (h0 6 (by decide +kernel)).trans rfl
      have cc : V.cell? ⟨g + 2, 0, none⟩ = some mk := (below_blk hS.2.2 (by omega) HW.out.2.2.2.1).cell 0
      exact rg_val rfl (wn_any rfl) (run_ld (v := mk) rfl x6 (by rw [← hmk] at cc ⊢; simp [go_sem, Instr.loadAt, cc])) (hS.other (by decide))
    · have e2 : a.eval (.tmp 25) = .slice (some ⟨b2, o2, none⟩) n bc := hv 2 _ (show 2 < 5 by decide) (hdep 2 (by decide +kernel)) rfl
      have e3 : a.eval (.tmp 26) = mk := hv 3 _ (show 3 < 5 by decide) (hdep 3 (by decide +kernel)) rfl
      have hsV := hS.2.1 hno
      refine rg_call rfl (wn_any rfl) (run_cl2 rfl e2 (e3.trans hmk.symm) eg_masked) (R := fun V' => V' = (V.alloc (.cells #[.slice (some ⟨b2, o2, none⟩) n bc] 24)).alloc (.cells #[mk] 24)) ((masked_any _ _ _ _ _ _).mono ?_) ?_
      · rintro e V' ⟨rfl, rfl⟩
        rw [hsV, hmk]
        exact ⟨rfl, rfl⟩
      · rintro V' rfl
        have k0 := (Blk.new 24 V [.slice (some ⟨b2, o2, none⟩) n bc]).alloc (.cells #[mk] 24)
        have k1 := Blk.new 24 (V.alloc (.cells #[.slice (some ⟨b2, o2, none⟩) n bc] 24)) [mk]
        have hb := (hS.2.2.alloc (by omega) (.cells #[.slice (some ⟨b2, o2, none⟩) n bc] 24)).alloc (by simp; omega) (.cells #[mk] 24)
        simp only [World.size_alloc, hsV] at k0 k1
        exact StS.put (hsz 4 (by decide)) ⟨by simp [hsV], k0, k1⟩ hb
  have hT := hS.1 (hup 4 (by decide))
  have HV : Hid (V.heap.size = g + 5 ∧ Blk 24 V (g + 3) [.slice (some ⟨b2, o2, none⟩) n bc] ∧ Blk 24 V (g + 4) [mk] ∧ Below (g + 3) W V) := ⟨hT.1, hT.2.1, hT.2.2, hS.2.2⟩
  clear hS hT
  rw [frF5a rfl rfl rfl rfl rfl rfl]
  simp only [List.setIfInBounds_toArray, List.set_cons_succ, List.set_cons_zero, List.getD_cons_zero, List.getD_cons_succ]
  go_wp2
  obtain ⟨gg, hgg⟩ : ∃ gg, g + 5 = gg := ⟨_, rfl⟩
  have hVg : V.heap.size = gg := by have := HV.out.1; omega
  refine (wpIn_wide (n := 10)).1 ?_
  refine range_mat (n := 5) (N := n) (gf := 25) (lb := #[.pointer (some ⟨g + 3, 0, none⟩), .pointer (some ⟨g + 4, 0, none⟩)]) (by simp [Act.eval]) (enters_of Tryz.func25 (by kernel_rfl) rfl)
    (fun i A => NetI w g b1 o1 b2 o2 n xc bc X B mk i A) (fun c A => c = .ret ∧ NetX w g A ∧ R = false) (fun i v _ => v = #[.int .i64 (i : Int), .int .u8 (andV ((B.take n).getD i 0) ((B.drop n).getD i 0))])
    ?_ ?_ ?_ ?_ ?_ ?_ ?_ (fun v => { tmps := #[.slice (some ⟨b1, o1, none⟩) n xc, .slice (some ⟨b2, o2, none⟩) m bc, .pointer (some ⟨g, 0, none⟩), undef, .pointer (some ⟨g + 1, 0, none⟩), .int .i64 n, .pointer (some ⟨g + 2, 0, none⟩), v.getD 0 undef, v.getD 1 undef, .slice (some ⟨b1, o1, none⟩) n xc, .int .i64 n, .int .i64 n, .bool false, .bool false, .slice (some ⟨b2, o2, none⟩) m bc, .int .i64 m, .int .i64 n, .int .i64 (2 * (n : Int)), .bool false, .bool false, .slice (some ⟨b2, o2, none⟩) m bc, .int .i64 n, mk, .slice (some ⟨b2, o2, none⟩) m bc, .int .i64 n, .slice (some ⟨b2, o2, none⟩) n bc, mk, .func (.func 25) #[] #[.pointer (some ⟨g + 3, 0, none⟩), .pointer (some ⟨g + 4, 0, none⟩)], v.getD 0 undef, v.getD 1 undef, undef, undef, undef, undef, undef, undef, undef, undef, undef, undef, undef], defers := [] }) ?_ ?_ ?_ ?_
  · rintro i v A rfl; rfl
  · rintro i A A' ⟨h0, h1, h2, h3, h4, h5, h6, h7⟩ hb
    exact ⟨Nat.le_trans h0 hb.size, below_blk hb h1.lt h1, below_blk hb h2.lt h2, below_blk hb h3.lt h3, below_blk hb h4.lt h4, below_blk hb h5.lt h5, h6.trans (hb.mono (by omega)), h7⟩
  · rintro i A k o o' hk ho hc hwk ⟨h0, h1, h2, h3, h4, h5, h6, h7⟩
    exact ⟨by simpa [World.putObj] using h0, blk_put o' (by omega) h1, blk_put o' (by omega) h2, blk_put o' (by omega) h3, blk_put o' (by omega) h4, blk_put o' (by omega) h5, below_putW' o' (by omega) h6, h7⟩
  · rintro c A k o o' hk ho hc hwk ⟨rfl, ⟨h1, h6⟩, hr⟩
    exact ⟨rfl, ⟨blk_put o' (by omega) h1, below_putW' o' (by omega) h6⟩, hr⟩
  · rintro i v A k o o' hk ho hc hwk rfl
    rfl
  · intro l W1 J Jx hs1 hb1 h0 hJI hJb hY
    have hmk' : mk = .slice (some ⟨b2, o2 + n, none⟩) n (bc - n) := by rw [← hmk, show m - n = n by omega]
    have lt : (B.take n).length = n := by rw [List.length_take, HX.out.2.2.2]; omega
    have ld : (B.drop n).length = n := by rw [List.length_drop, HX.out.2.2.2]; omega
    have h := masked1_any l (g + 3) (g + 4) (.slice (some ⟨b2, o2, none⟩) n bc) mk (B.take n) (B.drop n) (by omega) (by omega) 5 J Jx (fun i A hJ => by
      obtain ⟨h0, h1, h2, h3, h4, h5, h6, h7⟩ := hJI i A hJ
      have hB' : Sl .u8 A (.slice (some ⟨b2, o2, none⟩) (2 * n) bc) B := below_sl (hg ▸ h6) HX.out.2.1
      refine ⟨h4.cell 0, h5.cell 0, sl_take hB' n (by omega), ?_⟩
      rw [hmk']
      exact sl_drop hB' n (by rw [HX.out.2.2.2]; omega) (by omega)) W1 h0 (fun i A hi hJ hsz => hY i _ A (by omega) hJ hsz rfl)
    rw [lt] at h
    exact h
  · refine ⟨by have := HV.out.1; omega, below_blk HV.out.2.2.2 (by omega) (HW.out.2.1), below_blk HV.out.2.2.2 (by omega) (HW.out.2.2.1), below_blk HV.out.2.2.2 (by omega) (HW.out.2.2.2.1), HV.out.2.1, HV.out.2.2.1, HW.out.2.2.2.2.trans (HV.out.2.2.2.mono (by omega)), fun j hj => by omega⟩
  · rintro l i v A K hv hK
    obtain ⟨z, hz⟩ : ∃ z, andV ((B.take n).getD i 0) ((B.drop n).getD i 0) = z := ⟨_, rfl⟩
    rw [hz] at hv
    subst hv
    clear hz
    gi_wp2
    exact hK
  · rintro l i v A hi hI hsA hv
    obtain ⟨y, hy⟩ : ∃ y, B.getD i 0 = y := ⟨_, rfl⟩
    obtain ⟨x, hx⟩ : ∃ x, X.getD i 0 = x := ⟨_, rfl⟩
    obtain ⟨u, hu⟩ : ∃ u, B.getD (n + i) 0 = u := ⟨_, rfl⟩
    obtain ⟨z, hz⟩ : ∃ z, andV y u = z := ⟨_, rfl⟩
    have e1 : (B.take n).getD i 0 = y := by rw [← hy]; simp [List.getD_eq_getElem?_getD, hi]
    have e2 : (B.drop n).getD i 0 = u := by rw [← hu]; simp [List.getD_eq_getElem?_getD, List.getElem?_drop]
    rw [e1, e2, hz] at hv
    subst hv
    obtain ⟨h0, h1, h2, h3, h4, h5, h6, h7⟩ := hI
    have hmk' : mk = .slice (some ⟨b2, o2 + n, none⟩) n (bc - n) := by rw [← hmk, show m - n = n by omega]
    rw [hmk'] at h3
    have hA1 : Sl .u8 A (.slice (some ⟨b1, o1, none⟩) n xc) X := below_sl (hg ▸ h6) HX.out.1
    have hA2 : Sl .u8 A (.slice (some ⟨b2, o2, none⟩) (2 * n) bc) B := below_sl (hg ▸ h6) HX.out.2.1
    have hA3 := sl_drop hA2 n (by rw [HX.out.2.2.2]; omega) (by omega)
    have f1 : A.drew.cell? ⟨b1, o1 + i, none⟩ = some (.int .u8 x) := by rw [← hx]; exact sl_at hA1 i (by rw [HX.out.2.2.1]; omega)
    have f3 : A.drew.cell? ⟨b2, o2 + n + i, none⟩ = some (.int .u8 u) := by rw [← e2]; exact sl_at hA3 i (by rw [List.length_drop, HX.out.2.2.2]; omega)
    have q0 : A.drew.cell? ⟨g, 0, none⟩ = some (.slice (some ⟨b1, o1, none⟩) n xc) := h1.cell 0
    have q2 : A.drew.cell? ⟨g + 2, 0, none⟩ = some (.slice (some ⟨b2, o2 + n, none⟩) n (bc - n)) := h3.cell 0
    have q4 : A.drew.cell? ⟨g + 1, 0, none⟩ = some (.bool false) := h2.cell 0
    have q5 : A.drew.frozen? ⟨g + 1, 0, none⟩ = false := h2.frozen 0
    have hni : ¬ n ≤ i := by omega
    obtain ⟨p, hp⟩ : ∃ p, bits BinOp.and IntKind.u8 x u = p := ⟨_, rfl⟩
    have HI : Hid (NetI w g b1 o1 b2 o2 n xc bc X B mk i A) := ⟨h0, h1, h2, hmk' ▸ h3, h4, h5, h6, h7⟩
    have HE : Hid (andV (X.getD i 0) (B.getD (n + i) 0) = p ∧ andV (B.getD i 0) (B.getD (n + i) 0) = z ∧ i < n) := ⟨by rw [hx, hu]; exact hp, by rw [hy, hu]; exact hz, hi⟩
    clear h0 h1 h2 h3 h4 h5 h6 h7 hA1 hA2 hA3 hx hu hy hz e1 e2 hmk'
    have HRn : Hid (NetB' X B n R) := HN
    clear HX HV HW HN hmk
    obtain ⟨q, hq⟩ : ∃ q : Bool, (p != z) = q := ⟨_, rfl⟩
    show Code.wpIn _ _ _ _ _ { tmps := #[.slice (some ⟨b1, o1, none⟩) n xc, .slice (some ⟨b2, o2, none⟩) m bc, .pointer (some ⟨g, 0, none⟩), undef, .pointer (some ⟨g + 1, 0, none⟩), .int .i64 n, .pointer (some ⟨g + 2, 0, none⟩), .int .i64 (i : Int), .int .u8 z, .slice (some ⟨b1, o1, none⟩) n xc, .int .i64 n, .int .i64 n, .bool false, .bool false, .slice (some ⟨b2, o2, none⟩) m bc, .int .i64 m, .int .i64 n, .int .i64 (2 * (n : Int)), .bool false, .bool false, .slice (some ⟨b2, o2, none⟩) m bc, .int .i64 n, mk, .slice (some ⟨b2, o2, none⟩) m bc, .int .i64 n, .slice (some ⟨b2, o2, none⟩) n bc, mk, .func (.func 25) #[] #[.pointer (some ⟨g + 3, 0, none⟩), .pointer (some ⟨g + 4, 0, none⟩)], .int .i64 (i : Int), .int .u8 z, undef, undef, undef, undef, undef, undef, undef, undef, undef, undef, undef], defers := [] } _
    gi_wp2
    refine Wid.reads (.inr ⟨l, rfl⟩) (fun k => ([.slice (some ⟨b1, o1, none⟩) n xc, .int .i64 (i : Int), .pointer (some ⟨b1, o1 + i, none⟩), .int .u8 x, .slice (some ⟨b2, o2 + n, none⟩) n (bc - n), .int .i64 (i : Int), .pointer (some ⟨b2, o2 + n + i, none⟩), .int .u8 u, .int .u8 p, .int .u8 z, .bool q] : List Value).getD k undef) rfl (by decide +kernel) (show dstB _ 41 = true by decide +kernel) ?_ (fun i0 L a hi0 hdep hv h0 => ?_)
    rotate_left
    · replace hi0 : i0 < 11 := hi0
      obtain rfl | rfl | rfl | rfl | rfl | rfl | rfl | rfl | rfl | rfl | rfl : i0 = 0 ∨ i0 = 1 ∨ i0 = 2 ∨ i0 = 3 ∨ i0 = 4 ∨ i0 = 5 ∨ i0 = 6 ∨ i0 = 7 ∨ i0 = 8 ∨ i0 = 9 ∨ i0 = 10 := by omega
      · have x2 : a.eval (.tmp 2) = .pointer (some ⟨g, 0, none⟩) := (h0 2 (by decide +kernel)).trans rfl
        exact ⟨_, rfl, rfl, fun c hc => (by cases hc), run_ld (v := .slice (some ⟨b1, o1, none⟩) n xc) rfl x2 (by simp [go_sem, Instr.loadAt, q0])⟩
      · have x7 : a.eval (.tmp 7) = .int .i64 (i : Int) := (h0 7 (by decide +kernel)).trans rfl
        exact ⟨_, rfl, rfl, fun c hc => (by cases hc), run_mv rfl x7⟩
      · exact ⟨_, rfl, rfl, fun c hc => (by cases hc), run_ia (v := .pointer (some ⟨b1, o1 + i, none⟩)) rfl (hv 0 _ (show 0 < 11 by decide) (hdep 0 (by decide +kernel)) rfl) (hv 1 _ (show 1 < 11 by decide) (hdep 1 (by decide +kernel)) rfl) (by simp [go_sem, Instr.indexAt, hni])⟩
      · exact ⟨_, rfl, rfl, fun c hc => (by cases hc), run_ld (v := .int .u8 x) rfl (hv 2 _ (show 2 < 11 by decide) (hdep 2 (by decide +kernel)) rfl) (by simp [go_sem, Instr.loadAt, f1])⟩
      · have x6 : a.eval (.tmp 6) = .pointer (some ⟨g + 2, 0, none⟩) := (h0 6 (by decide +kernel)).trans rfl
        exact ⟨_, rfl, rfl, fun c hc => (by cases hc), run_ld (v := .slice (some ⟨b2, o2 + n, none⟩) n (bc - n)) rfl x6 (by simp [go_sem, Instr.loadAt, q2])⟩
      · have x7 : a.eval (.tmp 7) = .int .i64 (i : Int) := (h0 7 (by decide +kernel)).trans rfl
        exact ⟨_, rfl, rfl, fun c hc => (by cases hc), run_mv rfl x7⟩
      · exact ⟨_, rfl, rfl, fun c hc => (by cases hc), run_ia (v := .pointer (some ⟨b2, o2 + n + i, none⟩)) rfl (hv 4 _ (show 4 < 11 by decide) (hdep 4 (by decide +kernel)) rfl) (hv 5 _ (show 5 < 11 by decide) (hdep 5 (by decide +kernel)) rfl) (by simp [go_sem, Instr.indexAt, hni])⟩
      · exact ⟨_, rfl, rfl, fun c hc => (by cases hc), run_ld (v := .int .u8 u) rfl (hv 6 _ (show 6 < 11 by decide) (hdep 6 (by decide +kernel)) rfl) (by simp [go_sem, Instr.loadAt, f3])⟩
      · exact ⟨_, rfl, rfl, fun c hc => (by cases hc), run_bin (v := .int .u8 p) rfl (hv 3 _ (show 3 < 11 by decide) (hdep 3 (by decide +kernel)) rfl) (hv 7 _ (show 7 < 11 by decide) (hdep 7 (by decide +kernel)) rfl) (by simp [go_sem, hp])⟩
      · have x8 : a.eval (.tmp 8) = .int .u8 z := (h0 8 (by decide +kernel)).trans rfl
        exact ⟨_, rfl, rfl, fun c hc => (by cases hc), run_mv rfl x8⟩
      · exact ⟨_, rfl, rfl, fun c hc => (by cases hc), run_bin (v := .bool q) rfl (hv 8 _ (show 8 < 11 by decide) (hdep 8 (by decide +kernel)) rfl) (hv 9 _ (show 9 < 11 by decide) (hdep 9 (by decide +kernel)) rfl) (by simp [go_sem, hq])⟩
    rw [frF11a rfl rfl rfl rfl rfl rfl rfl rfl rfl rfl rfl rfl]
    simp only [List.setIfInBounds_toArray, List.set_cons_succ, List.set_cons_zero, List.getD_cons_zero, List.getD_cons_succ]
    clear f1 f3 q0 q2
    cases q with
    | false =>
      have hq' : p = z := by simpa using hq
      gi_wp2
      refine ⟨⟨Nat.le_refl _, fun _ _ _ => rfl⟩, ?_⟩
      obtain ⟨h0, h1, h2, h3, h4, h5, h6, h7⟩ := HI.out
      refine ⟨h0, h1, h2, h3, h4, h5, h6.drew, fun j hj => ?_⟩
      by_cases e : j = i
      · subst e; rw [HE.out.1, HE.out.2.1, hq']
      · exact h7 j (by omega)
    | true =>
      have hq' : p ≠ z := by simpa using hq
      gi_wp2
      obtain ⟨h0, h1, h2, h3, h4, h5, h6, h7⟩ := HI.out
      refine ⟨⟨by simp, fun k hk hlt => ?_⟩, rfl, ⟨?_, ?_⟩, ?_⟩
      · exact (Upd.set A.drew (g + 1) 0 (.bool false)).block k hlt (by simp; omega)
      · exact Blk.set (show Blk 4 A.drew (g + 1) [.bool false] from h2) 0 (.bool false)
      · exact (Upd.set A.drew (g + 1) 0 (.bool false)).below h6.drew (by show g ≤ A.heap.size; omega) (by omega)
      · exact HRn.out.1 ⟨i, HE.out.2.2, by rw [HE.out.1, HE.out.2.1]; exact hq'⟩
  · intro A hI hd
    have HI : Hid (NetI w g b1 o1 b2 o2 n xc bc X B mk n A) := hI
    have q4 : A.cell? ⟨g + 1, 0, none⟩ = some (.bool false) := hI.2.2.1.cell 0
    have q5 : A.frozen? ⟨g + 1, 0, none⟩ = false := hI.2.2.1.frozen 0
    clear hI
    obtain rfl : R = true := HN.out.2 HI.out.2.2.2.2.2.2.2
    go_wp2
    have hu := Upd.set A (g + 1) 0 (.bool true)
    have hd' : (A.setCell ⟨g + 1, 0, none⟩ (.bool true)).heap[V.heap.size]? = some (.deferred (some [])) := (hu.block _ (Array.getElem?_eq_some_iff.1 hd).1 (by simp; omega)).trans hd
    refine ⟨by simp, .inl ⟨_, _, rfl, run_takeDeferred hd', ?_⟩⟩
    have hbb : Below g w ((A.setCell ⟨g + 1, 0, none⟩ (.bool true)).putObj V.heap.size (.deferred none)) := below_putW' _ (by omega) (hu.below HI.out.2.2.2.2.2.2.1 (by have := HI.out.1; omega) (by omega))
    rw [← hg] at hbb
    exact ⟨_, results_cell1 (b := g + 1) (q := true) rfl _ _ rfl ((blk_put _ (by omega) (HI.out.2.2.1.set 0 (.bool true))).cell 0), rfl, hg ▸ hbb⟩
  · rintro c A ⟨rfl, hX, hRf⟩ hd
    have HXX : Hid (NetX w g A) := hX
    subst hRf
    refine wpIn_wide.2 ?_
    go_wp2
    refine ⟨by simp, .inl ⟨_, _, rfl, run_takeDeferred hd, ?_⟩⟩
    exact ⟨_, results_cell1 (b := g + 1) (q := false) rfl _ _ rfl ((blk_put _ (by omega) HXX.out.1).cell 0), rfl, hg ▸ below_putW' _ (by omega) HXX.out.2⟩
theorem Net_any {w : World} (vx vb : Value) (X B : List Int) (hX : Sl .u8 w vx X) (hB : Sl .u8 w vb B) (lX : X.length ≤ 1000000) :
    Calls Tryz.prog 9 #[vx, vb] w fun e w' => e = .returned (.bool (netB X B)) ∧ Below w.heap.size w w' := by
  obtain ⟨xa, xc, rfl, hxc, f1⟩ := hX.form6
  obtain ⟨ba, bc, rfl, hbc, f2⟩ := hB.form6
  by_cases hg : X.length = 0 ∨ B.length ≠ 2 * X.length
  · have e : netB X B = false := decide_eq_false fun k => by omega
    rw [e]
    exact Net_no _ _ _ _ _ _ lX hg
  · obtain ⟨b1, o1, rfl, _⟩ := f1 0 (by omega)
    obtain ⟨b2, o2, rfl, _⟩ := f2 0 (by omega)
    obtain ⟨n, hn⟩ : ∃ n, X.length = n := ⟨_, rfl⟩
    have hm : B.length = 2 * n := by omega
    rw [hn] at hX lX ⊢
    rw [hm] at hB hbc ⊢
    exact Net_yes n b1 o1 b2 o2 xc bc X B hX hB hn hm (by omega) hbc lX
end Go.Proofs.YtbgeemjnhkinaaaGreatDoor
/-
  Realm: the reference's Net.
-/
namespace Go.Proofs.YtbgeemjnhkinaaaGreatDoor
open Go.RowKit
theorem bel_drewN {B : Nat} {w W : World} (h : Below B w W) (q : Nat) : Below B w (W.drewN q) := ⟨h.os, h.tape, h.output, h.size, h.block⟩
end Go.Proofs.YtbgeemjnhkinaaaGreatDoor
/-
  Realm: a rule of hosts, held against one base.
-/
namespace Go.Proofs.YtbgeemjnhkinaaaGreatDoor
open Go.RowKit
/-- A name with a text. -/
def gen (k : Int) (X : List Int) (a d : Option Addr) (n c m e : Nat) : List Value := [.int .i64 k, .string (strOfNums X), .slice a n c, .slice d m e]
/-- The rule of hosts. -/
def rul2 (k : Int) : List Value := [.int .i64 k, .func (.func 31) #[] #[]]
set_option maxHeartbeats 4000000 in
theorem holds2_any {w : World} (k1 k2 : Int) (X Y : List Int) (uX : U8s X) (uY : U8s Y) (lX : X.length ≤ 1125899906842624) (lY : Y.length ≤ 1125899906842624) (a1 a2 d1 d2 : Option Addr) (n1 c1 n2 c2 m1 e1 m2 e2 : Nat) :
    Calls Tryz.prog 31 #[.agg #[.int .i64 k1, .string (strOfNums X), .slice a1 n1 c1, .slice d1 m1 e1], .agg #[.int .i64 k2, .string (strOfNums Y), .slice a2 n2 c2, .slice d2 m2 e2]] w fun e w' => e = .returned (.bool (hostB X Y)) ∧ Below w.heap.size w w' := by
  have HB : Hid (∀ o o' : Obj, Below w.heap.size w ((w.alloc o).alloc o')) := fun o o' => (al1 o).alloc (al1 o).size o'
  go_enter Tryz.func31, Tryz.ntmps31
  go_wp2_with (first | (go_at_call 5; refine (Host_any X Y uX uY lX lY).mono ?_; rintro e w1 ⟨rfl, hb⟩))
  go_ret
  exact ⟨rfl, (HB.out _ _).trans (hb.mono (HB.out _ _).size)⟩
theorem eg_holds2 (args : Array Value) (w : World) : (callFunc 31 args).run Tryz.prog w = .ok (.enter 31 args) w := enters_of Tryz.func31 (by kernel_rfl) rfl args w
set_option maxHeartbeats 4000000 in
theorem match2_any {w : World} (r k1 k2 : Int) (X Y : List Int) (uX : U8s X) (uY : U8s Y) (lX : X.length ≤ 1125899906842624) (lY : Y.length ≤ 1125899906842624) (a1 a2 d1 d2 : Option Addr) (n1 c1 n2 c2 m1 e1 m2 e2 : Nat) :
    Calls Tryz.prog 28 #[.agg #[.int .i64 r, .func (.func 31) #[] #[]], .agg #[.int .i64 k1, .string (strOfNums X), .slice a1 n1 c1, .slice d1 m1 e1], .agg #[.int .i64 k2, .string (strOfNums Y), .slice a2 n2 c2, .slice d2 m2 e2]] w fun e w' => e = .returned (.bool (decide (k2 = r) && hostB X Y)) ∧ Below w.heap.size w w' := by
  have HB : Hid (∀ o o' o'' : Obj, Below w.heap.size w (((w.alloc o).alloc o').alloc o'')) := fun o o' o'' => ((al1 o).alloc (al1 o).size o').alloc ((al1 o).alloc (al1 o).size o').size o''
  by_cases hk : k2 = r
  · subst hk
    have hkb : (k2 == k2) = true := by simp
    go_enter Tryz.func28, Tryz.ntmps28
    go_wp2_with (first | (go_at_call 31; refine (holds2_any k1 k2 X Y uX uY lX lY a1 a2 d1 d2 n1 c1 n2 c2 m1 e1 m2 e2).mono ?_; rintro e w1 ⟨rfl, hb⟩))
    go_ret
    exact ⟨by simp, (HB.out _ _ _).trans (hb.mono (HB.out _ _ _).size)⟩
  · have hkb : (k2 == r) = false := by simp [hk]
    go_enter Tryz.func28, Tryz.ntmps28
    go_wp2
    go_ret
    exact ⟨by simp [hk], HB.out _ _ _⟩
end Go.Proofs.YtbgeemjnhkinaaaGreatDoor
/-
  Realm: a rule held against no base, and against one; is there a base of its kind?
-/
namespace Go.Proofs.YtbgeemjnhkinaaaGreatDoor
open Go.RowKit
theorem Tryz.sizeG : (Tryz.prog.info? 27).map (·.size) = some 4 := by kernel_rfl
theorem Tryz.sizeU : (Tryz.prog.info? 43).map (·.size) = some 2 := by kernel_rfl
set_option maxHeartbeats 4000000 in
theorem matches0_any {w : World} (r k1 : Int) (X : List Int) (a1 d1 : Option Addr) (n1 c1 m1 e1 : Nat) :
    Calls Tryz.prog 20 #[.agg #[.int .i64 r, .func (.func 31) #[] #[]], .agg #[.int .i64 k1, .string (strOfNums X), .slice a1 n1 c1, .slice d1 m1 e1], .slice none 0 0] w fun e w' => e = .returned (.bool false) ∧ Below w.heap.size w w' := by
  have HB : Hid (∀ o o' : Obj, Below w.heap.size w ((w.alloc o).alloc o')) := fun o o' => (al1 o).alloc (al1 o).size o'
  go_enter Tryz.func20, Tryz.ntmps20
  go_wp2_with fail
  go_loopw [8, 11] (fun _ iv wr => iv = .int .i64 0 ∧ Below w.heap.size w wr) (fun _ iv _ => 0)
  case atStart => exact ⟨rfl, HB.out _ _⟩
  case round =>
    obtain ⟨rfl, hbw⟩ := hrel
    go_wp2
    go_ret
    exact ⟨rfl, hbw⟩
/-- A rule, a name and a base lie where they were laid. -/
def MO (w : World) (g b : Nat) (u n m : List Value) (W : World) : Prop := Blk 43 W g u ∧ Blk 27 W (g + 1) n ∧ Blk 27 W b m ∧ Below g w W
/-- A rule and a base lie where they were laid. -/
def BO (w : World) (g b : Nat) (u m : List Value) (W : World) : Prop := Blk 43 W g u ∧ Blk 27 W b m ∧ Below g w W
theorem BO.below {w : World} {g b : Nat} {u m : List Value} {W W' : World} (h : BO w g b u m W) (hb : Below W.heap.size W W') : BO w g b u m W' :=
  ⟨below_blk hb h.1.lt h.1, below_blk hb h.2.1.lt h.2.1, h.2.2.trans (hb.mono (by have := h.1.lt; omega))⟩
theorem MO.below {w : World} {g b : Nat} {u n m : List Value} {W W' : World} (h : MO w g b u n m W) (hb : Below W.heap.size W W') : MO w g b u n m W' :=
  ⟨below_blk hb h.1.lt h.1, below_blk hb h.2.1.lt h.2.1, below_blk hb h.2.2.1.lt h.2.2.1, h.2.2.2.trans (hb.mono (by have := h.1.lt; omega))⟩
set_option maxRecDepth 20000 in
set_option maxHeartbeats 4000000 in
theorem matches1_any {w : World} (r k1 k2 : Int) (X Y : List Int) (uX : U8s X) (uY : U8s Y) (lX : X.length ≤ 1125899906842624) (lY : Y.length ≤ 1125899906842624) (a1 a2 d1 d2 : Option Addr) (n1 c1 n2 c2 m1 e1 m2 e2 b : Nat) (hb : Blk 27 w b (gen k2 Y a2 d2 n2 c2 m2 e2)) :
    Calls Tryz.prog 20 #[.agg #[.int .i64 r, .func (.func 31) #[] #[]], .agg #[.int .i64 k1, .string (strOfNums X), .slice a1 n1 c1, .slice d1 m1 e1], .slice (some ⟨b, 0, none⟩) 1 1] w fun e w' => e = .returned (.bool (decide (k2 = r) && hostB X Y)) ∧ Below w.heap.size w w' := by
  obtain ⟨R, hR⟩ : ∃ R, (decide (k2 = r) && hostB X Y) = R := ⟨_, rfl⟩
  rw [hR]
  have HM : Hid (∀ W : World, Calls Tryz.prog 28 #[.agg #[.int .i64 r, .func (.func 31) #[] #[]], .agg #[.int .i64 k1, .string (strOfNums X), .slice a1 n1 c1, .slice d1 m1 e1], .agg #[.int .i64 k2, .string (strOfNums Y), .slice a2 n2 c2, .slice d2 m2 e2]] W fun e w' => e = .returned (.bool R) ∧ Below W.heap.size W w') := fun W => hR ▸ match2_any r k1 k2 X Y uX uY lX lY a1 a2 d1 d2 n1 c1 n2 c2 m1 e1 m2 e2
  have HB0 : Hid (Blk 27 w b (gen k2 Y a2 d2 n2 c2 m2 e2)) := hb
  have hbl := hb.lt
  clear hR hb uX uY lX lY
  obtain ⟨g, hg⟩ : ∃ g, w.heap.size = g := ⟨_, rfl⟩
  go_enter Tryz.func20, Tryz.ntmps20
  go_wp2_with fail
  refine wp_gen (fun W => MO w g b (rul2 r) (gen k1 X a1 d1 n1 c1 m1 e1) (gen k2 Y a2 d2 n2 c2 m2 e2) W) ?_ ?_
  · have k0 := (Blk.new 43 w (rul2 r)).alloc (.cells (gen k1 X a1 d1 n1 c1 m1 e1).toArray 27)
    have kk1 := Blk.new 27 (w.alloc (.cells (rul2 r).toArray 43)) (gen k1 X a1 d1 n1 c1 m1 e1)
    have hb := (al1 (w := w) (.cells (rul2 r).toArray 43)).alloc (al1 _).size (.cells (gen k1 X a1 d1 n1 c1 m1 e1).toArray 27)
    simp only [World.size_alloc, hg] at k0 kk1 hb
    exact ⟨k0, kk1, (HB0.out.alloc _).alloc _, hb⟩
  rintro W1 hM
  have HM1 : Hid (MO w g b (rul2 r) (gen k1 X a1 d1 n1 c1 m1 e1) (gen k2 Y a2 d2 n2 c2 m2 e2) W1) := hM
  clear hM
  go_loopw [8, 11] (fun _ iv wr => ∃ i : Nat, iv = .int .i64 (i : Int) ∧ (i = 0 ∨ i = 1 ∧ R = false) ∧ Hid (MO w g b (rul2 r) (gen k1 X a1 d1 n1 c1 m1 e1) (gen k2 Y a2 d2 n2 c2 m2 e2) wr)) (fun _ iv _ => 1 - (intOf iv).toNat)
  case atStart => exact ⟨0, rfl, .inl rfl, HM1.out⟩
  case round =>
    obtain ⟨i, rfl, hi, HI⟩ := hrel
    rcases hi with rfl | ⟨rfl, rfl⟩
    · have HG : Hid (wr.rangeAt b 0 [.int .i64 k2, .string (strOfNums Y), .slice a2 n2 c2, .slice d2 m2 e2]) := HI.out.2.2.1.whole
      go_upto_region 4 with (first
        | (refine wpList_load_mid rfl 27 (.tmp 13) rfl b 0 rfl [.int .i64 k2, .string (strOfNums Y), .slice a2 n2 c2, .slice d2 m2 e2] _ HG.out Tryz.underlying27 rfl Tryz.sizeG ?_)
        | (refine wpList_store_mid rfl 27 (.tmp 8) (.tmp 14) rfl wr.heap.size 0 #[.int .i64 k2, .string (strOfNums Y), .slice a2 n2 c2, .slice d2 m2 e2] rfl rfl ((Blk.new 27 wr _).there 0 _ (by simp)) (by simpa using Tryz.sizeG) (by rfl) ?_))
      obtain ⟨h, hh⟩ : ∃ h, wr.heap.size = h := ⟨_, rfl⟩
      rw [hh]
      refine wp_gen (fun W => MO w g b (rul2 r) (gen k1 X a1 d1 n1 c1 m1 e1) (gen k2 Y a2 d2 n2 c2 m2 e2) W ∧ Blk 27 W h [.int .i64 k2, .string (strOfNums Y), .slice a2 n2 c2, .slice d2 m2 e2]) ⟨HI.out.below ((Below.refl _ _).alloc (Nat.le_refl _) _), hh ▸ Blk.new 27 wr [.int .i64 k2, .string (strOfNums Y), .slice a2 n2 c2, .slice d2 m2 e2]⟩ ?_
      rintro W2 ⟨hM2, hB2⟩
      have G1 : Hid (W2.rangeAt g 0 [.int .i64 r, .func (.func 31) #[] #[]]) := hM2.1.whole
      have G2 : Hid (W2.rangeAt (g + 1) 0 [.int .i64 k1, .string (strOfNums X), .slice a1 n1 c1, .slice d1 m1 e1]) := hM2.2.1.whole
      have G3 : Hid (W2.rangeAt h 0 [.int .i64 k2, .string (strOfNums Y), .slice a2 n2 c2, .slice d2 m2 e2]) := hB2.whole
      have HM2 : Hid (MO w g b (rul2 r) (gen k1 X a1 d1 n1 c1 m1 e1) (gen k2 Y a2 d2 n2 c2 m2 e2) W2) := hM2
      clear hM2 hB2
      cases R with
      | true =>
        go_wp2_with (first
          | (refine wpList_load_mid rfl 43 (.tmp 3) rfl g 0 rfl [.int .i64 r, .func (.func 31) #[] #[]] _ G1.out Tryz.underlying43 rfl Tryz.sizeU ?_)
          | (refine wpList_load_mid rfl 27 (.tmp 4) rfl (g + 1) 0 rfl [.int .i64 k1, .string (strOfNums X), .slice a1 n1 c1, .slice d1 m1 e1] _ G2.out Tryz.underlying27 rfl Tryz.sizeG ?_)
          | (refine wpList_load_mid rfl 27 (.tmp 8) rfl h 0 rfl [.int .i64 k2, .string (strOfNums Y), .slice a2 n2 c2, .slice d2 m2 e2] _ G3.out Tryz.underlying27 rfl Tryz.sizeG ?_)
          | (go_at_call 28; refine (HM.out _).mono ?_; rintro e W3 ⟨rfl, hb3⟩))
        go_ret
        exact ⟨rfl, hg ▸ (HM2.out.below hb3).2.2.2⟩
      | false =>
        go_wp2_with (first
          | (refine wpList_load_mid rfl 43 (.tmp 3) rfl g 0 rfl [.int .i64 r, .func (.func 31) #[] #[]] _ G1.out Tryz.underlying43 rfl Tryz.sizeU ?_)
          | (refine wpList_load_mid rfl 27 (.tmp 4) rfl (g + 1) 0 rfl [.int .i64 k1, .string (strOfNums X), .slice a1 n1 c1, .slice d1 m1 e1] _ G2.out Tryz.underlying27 rfl Tryz.sizeG ?_)
          | (refine wpList_load_mid rfl 27 (.tmp 8) rfl h 0 rfl [.int .i64 k2, .string (strOfNums Y), .slice a2 n2 c2, .slice d2 m2 e2] _ G3.out Tryz.underlying27 rfl Tryz.sizeG ?_)
          | (go_at_call 28; refine (HM.out _).mono ?_; rintro e W3 ⟨rfl, hb3⟩))
        have HM3 : Hid (MO w g b (rul2 r) (gen k1 X a1 d1 n1 c1 m1 e1) (gen k2 Y a2 d2 n2 c2 m2 e2) W3) := HM2.out.below hb3
        clear hb3
        go_wp2
        go_roundw
        case rel => exact ⟨1, rfl, .inr ⟨rfl, trivial⟩, HM3.out⟩
        case measure => simp [intOf]
    · go_wp2
      go_ret
      exact ⟨rfl, hg ▸ HI.out.2.2.2⟩
set_option maxRecDepth 20000 in
set_option maxHeartbeats 4000000 in
theorem bounds1_any {w : World} (r k2 : Int) (Y : List Int) (a2 d2 : Option Addr) (n2 c2 m2 e2 b : Nat) (hb : Blk 27 w b (gen k2 Y a2 d2 n2 c2 m2 e2)) :
    Calls Tryz.prog 21 #[.agg #[.int .i64 r, .func (.func 31) #[] #[]], .slice (some ⟨b, 0, none⟩) 1 1] w fun e w' => e = .returned (.bool (decide (k2 = r))) ∧ Below w.heap.size w w' := by
  obtain ⟨R, hR⟩ : ∃ R, decide (k2 = r) = R := ⟨_, rfl⟩
  rw [hR]
  have hkb : (k2 == r) = R := by rw [← hR]; by_cases h : k2 = r <;> simp [h]
  have HB0 : Hid (Blk 27 w b (gen k2 Y a2 d2 n2 c2 m2 e2)) := hb
  have hbl := hb.lt
  clear hR hb
  obtain ⟨g, hg⟩ : ∃ g, w.heap.size = g := ⟨_, rfl⟩
  go_enter Tryz.func21, Tryz.ntmps21
  go_wp2_with fail
  refine wp_gen (fun W => BO w g b (rul2 r) (gen k2 Y a2 d2 n2 c2 m2 e2) W) ?_ ?_
  · have k0 := Blk.new 43 w (rul2 r)
    have hb := al1 (w := w) (.cells (rul2 r).toArray 43)
    simp only [hg] at k0 hb
    exact ⟨k0, HB0.out.alloc _, hb⟩
  rintro W1 hM
  have HM1 : Hid (BO w g b (rul2 r) (gen k2 Y a2 d2 n2 c2 m2 e2) W1) := hM
  clear hM
  go_loopw [6, 9] (fun _ iv wr => ∃ i : Nat, iv = .int .i64 (i : Int) ∧ (i = 0 ∨ i = 1 ∧ R = false) ∧ Hid (BO w g b (rul2 r) (gen k2 Y a2 d2 n2 c2 m2 e2) wr)) (fun _ iv _ => 1 - (intOf iv).toNat)
  case atStart => exact ⟨0, rfl, .inl rfl, HM1.out⟩
  case round =>
    obtain ⟨i, rfl, hi, HI⟩ := hrel
    rcases hi with rfl | ⟨rfl, rfl⟩
    · have HG : Hid (wr.rangeAt b 0 [.int .i64 k2, .string (strOfNums Y), .slice a2 n2 c2, .slice d2 m2 e2]) := HI.out.2.1.whole
      go_upto_region 4 with (first
        | (refine wpList_load_mid rfl 27 (.tmp 11) rfl b 0 rfl [.int .i64 k2, .string (strOfNums Y), .slice a2 n2 c2, .slice d2 m2 e2] _ HG.out Tryz.underlying27 rfl Tryz.sizeG ?_)
        | (refine wpList_store_mid rfl 27 (.tmp 6) (.tmp 12) rfl wr.heap.size 0 #[.int .i64 k2, .string (strOfNums Y), .slice a2 n2 c2, .slice d2 m2 e2] rfl rfl ((Blk.new 27 wr _).there 0 _ (by simp)) (by simpa using Tryz.sizeG) (by rfl) ?_))
      obtain ⟨h, hh⟩ : ∃ h, wr.heap.size = h := ⟨_, rfl⟩
      rw [hh]
      refine wp_gen (fun W => BO w g b (rul2 r) (gen k2 Y a2 d2 n2 c2 m2 e2) W ∧ Blk 27 W h [.int .i64 k2, .string (strOfNums Y), .slice a2 n2 c2, .slice d2 m2 e2]) ⟨HI.out.below ((Below.refl _ _).alloc (Nat.le_refl _) _), hh ▸ Blk.new 27 wr [.int .i64 k2, .string (strOfNums Y), .slice a2 n2 c2, .slice d2 m2 e2]⟩ ?_
      rintro W2 ⟨hM2, hB2⟩
      have p1 : W2.cell? ⟨g, 0, none⟩ = some (.int .i64 r) := hM2.1.cell 0
      have p2 : W2.cell? ⟨h, 0, none⟩ = some (.int .i64 k2) := hB2.cell 0
      have HM2 : Hid (BO w g b (rul2 r) (gen k2 Y a2 d2 n2 c2 m2 e2) W2) := hM2
      clear hM2 hB2
      cases R with
      | true =>
        go_wp2
        go_ret
        exact ⟨rfl, hg ▸ HM2.out.2.2⟩
      | false =>
        go_wp2
        go_roundw
        case rel => exact ⟨1, rfl, .inr ⟨rfl, trivial⟩, HM2.out⟩
        case measure => simp [intOf]
    · go_wp2
      go_ret
      exact ⟨rfl, hg ▸ HI.out.2.2⟩
end Go.Proofs.YtbgeemjnhkinaaaGreatDoor
