/-
  Ber: the reader's next element, up to its first inner one.
-/
import Derived.Test.YtefebamomdcaaaaGreatDoorK9
namespace Go.Proofs.YtefebamomdcaaaaGreatDoor
open Go.RowKit
abbrev zP : List Value := [.bool false, .int .i64 0]
theorem Tryz.sizeP : (Tryz.prog.info? 103).map (·.size) = some 2 := by kernel_rfl
/-- A function with three results, the first two in blocks of their own. -/
theorem results_blk3 {P : Program} {fn : Func} {T T' : TypeId} {t t' u : Tmp} (h : fn.results = #[.cell t T, .cell t' T', .tmp u]) {a : Array Value} {w : World} {b b' : Nat} {cs cs' : List Value} {d d' : TypeDesc} {v : Value} (ha : a.getD t undef = .pointer (some ⟨b, 0, none⟩)) (ha2 : a.getD t' undef = .pointer (some ⟨b', 0, none⟩))
    (hb : Blk T w b cs) (hb2 : Blk T' w b' cs') (hu : P.underlying T = some d) (hd : d.isRow = true) (hi : (P.info? T).map (·.size) = some cs.length) (hu2 : P.underlying T' = some d') (hd2 : d'.isRow = true) (hi2 : (P.info? T').map (·.size) = some cs'.length) (hv : a.getD u undef = v) : (results fn a).run P w = .ok (.tuple #[.agg cs.toArray, .agg cs'.toArray, v]) w := by
  have h1 := run_loadVar_mid (P := P) w b 0 T cs d hb.whole hu hd hi
  have h2 := run_loadVar_mid (P := P) w b' 0 T' cs' d' hb2.whole hu2 hd2 hi2
  have ha' : a[t]?.getD undef = .pointer (some ⟨b, 0, none⟩) := by simpa using ha
  have ha2' : a[t']?.getD undef = .pointer (some ⟨b', 0, none⟩) := by simpa using ha2
  have hv' : a[u]?.getD undef = v := by simpa using hv
  simp [results, h, ha', ha2', asAddr, h1, h2, hv']
/-- Only block g and new memory were turned; two new blocks hold what they hold. -/
theorem rd_take {w : World} {b off : Nat} {M : List Int} (h : Rd .u8 w b off M) (q : Nat) : Rd .u8 w b off (M.take q) := by
  intro i hi
  have h1 : i < M.length := by rw [List.length_take] at hi; omega
  have h2 : i < q := by rw [List.length_take] at hi; omega
  rw [h i h1, take_getD h2]
/-- What the reader tells of the element at p: an error, or the element and the part that it opens. -/
def BelOut (M : List Int) (p q dp : Nat) (B : Nat) (w : World) (e : Ending) (stands : Nat → Prop) : Bs → Prop
  | .inl (er, a) => ∃ (a0 a1 a2 : Int) (a3 b0 : Bool) (b1 : Int), e = .returned (.tuple #[.agg #[.int .i64 a0, .int .i64 a1, .int .i64 a2, .bool a3, .slice none 0 0], .agg #[.bool b0, .int .i64 b1], erV er a])
  | .inr (t, l, j) => ∃ (a : Option Addr) (k c : Nat) (yo : Bool) (yu : Nat), e = .returned (.tuple #[.agg #[.int .i64 (dp : Int), .int .i64 (M.getD p 0 / 64), .int .i64 t, .bool (decide (M.getD p 0 / 32 % 2 = 1)), .slice a k c], .agg #[.bool yo, .int .i64 (yu : Int)], .nilIface])
      ∧ Row .u8 5 B w (.slice a k c) (belE M p dp t l j).d
      ∧ (M.getD p 0 / 32 % 2 = 1 → (yo, yu) = if l < 0 then (true, q) else (false, j + l.toNat))
      ∧ stands (belP M p l j)
def BelAns (M : List Int) (p q m dp : Nat) (B : Nat) (w : World) (e : Ending) (stands : Nat → Prop) : Prop := BelOut M p q dp B w e stands (belS M p q m dp)
theorem BelOut.bad {M : List Int} {p q dp B : Nat} {w : World} {e : Ending} {stands : Nat → Prop} {er : Int} {a : Nat} (a0 a1 a2 : Int) (a3 b0 : Bool) (b1 : Int) (he : e = .returned (.tuple #[.agg #[.int .i64 a0, .int .i64 a1, .int .i64 a2, .bool a3, .slice none 0 0], .agg #[.bool b0, .int .i64 b1], erV er a])) : BelOut M p q dp B w e stands (.inl (er, a)) := ⟨a0, a1, a2, a3, b0, b1, he⟩
def capB (t : Int) : Rs → Bs
  | .inl x => .inl x
  | .inr (l, j) => .inr (t, l, j)
theorem belS_at2 {M : List Int} {p q m dp : Nat} (hm : m ≠ 65536) (hd : dp ≠ 64) (hp : p < q) {t : Int} {i : Nat} (ht : tagS (M.take q) p = .inr (t, i)) {co : Bool} (hc : decide (M.getD p 0 / 32 % 2 = 1) = co) {L : Rs} (hL : blen (M.take q) i co = L) : belS M p q m dp = capB t L := by
  rw [belS_at hm hd hp ht, hc, hL]
  cases L with
  | inl x => rfl
  | inr x => rfl
theorem oneA (a b c : Int) (d : Bool) (s : Option Addr) (n k : Nat) : (#[Value.int .i64 a, .int .i64 b, .int .i64 c, .bool d, .slice s n k] : Array Value).all (·.oneCell') = true :=
  all_oneCell_toArray (fun v hv => by
    simp only [List.mem_cons, List.not_mem_nil, or_false] at hv
    rcases hv with rfl | rfl | rfl | rfl | rfl <;> rfl)
theorem oneB (e : Bool) (f : Int) : (#[Value.bool e, .int .i64 f] : Array Value).all (·.oneCell') = true :=
  all_oneCell_toArray (fun v hv => by
    simp only [List.mem_cons, List.not_mem_nil, or_false] at hv
    rcases hv with rfl | rfl <;> rfl)
theorem run_faR {a : Act} {W : World} {o : Oper} {x : Operand} {k : Nat} (hop : o.op = .fieldAddr 101 x k) {bl : Nat} (hx : a.eval x = .pointer (some ⟨bl, 0, none⟩)) (hk : k < 3) : (execOp a.eval o).run Tryz.prog W = .ok (.value (.pointer (some ⟨bl, k, none⟩))) W := by
  unfold execOp
  simp only [hop, hx]
  match k, hk with
  | 0, _ => simp [go_sem, Instr.fieldAt]
  | 1, _ => simp [go_sem, Instr.fieldAt]
  | 2, _ => simp [go_sem, Instr.fieldAt]
theorem run_ldI {a : Act} {W : World} {o : Oper} {x : Operand} (hop : o.op = .load 3 x) {bl off : Nat} (hx : a.eval x = .pointer (some ⟨bl, off, none⟩)) {v : Value} (hc : W.cell? ⟨bl, off, none⟩ = some v) : (execOp a.eval o).run Tryz.prog W = .ok (.value v) W := by
  unfold execOp
  simp only [hop, hx]
  simp [go_sem, hc]
theorem eg_fault (args : Array Value) (w : World) : (callFunc 59 args).run Tryz.prog w = .ok (.enter 59 args) w := by
  have g1 : ¬ Tryz.f59.name = "runtime.NumGoroutine" := by decide +kernel
  have g2 : Tryz.f59.body.isNone = false := by kernel_rfl
  have g3 : ¬ Tryz.f59.body = none := fun h => by rw [h] at g2; cases g2
  simp [go_sem, callFunc, Tryz.func59, g1, g3]
theorem run_callF {a : Act} {W : World} {o : Oper} {v1 : Value} {x2 : Operand} {tys : Array TypeId} (hop : o.op = .call { callee := .value (.func 59), args := #[.const v1, x2], argTypes := tys }) {v2 : Value} (e2 : a.eval x2 = v2) : (execOp a.eval o).run Tryz.prog W = .ok (.enter 59 #[v1, v2]) W := by
  have e0 : a.eval (.func 59) = .func (.func 59) #[] #[] := rfl
  subst e2
  unfold execOp
  simp only [hop, resolve, e0]
  simp [go_sem, Deferred.ofValue, invoke]
theorem BelOut.good {M : List Int} {p q dp B : Nat} {w : World} {e : Ending} {stands : Nat → Prop} {t l : Int} {j : Nat} {cl : Int} {co : Bool} (hcl : M.getD p 0 / 64 = cl) (hco : decide (M.getD p 0 / 32 % 2 = 1) = co) (a : Option Addr) (k c : Nat) (yo : Bool) (yu : Nat)
    (he : e = .returned (.tuple #[.agg #[.int .i64 (dp : Int), .int .i64 cl, .int .i64 t, .bool co, .slice a k c], .agg #[.bool yo, .int .i64 (yu : Int)], .nilIface]))
    (hr : Row .u8 5 B w (.slice a k c) (if co = true then [] else (M.drop j).take l.toNat)) (hy : co = true → (yo, yu) = if l < 0 then (true, q) else (false, j + l.toNat)) (hs : stands (if co = true then j else j + l.toNat)) : BelOut M p q dp B w e stands (.inr (t, l, j)) := by
  have hi : (M.getD p 0 / 32 % 2 = 1) ↔ co = true := by rw [← hco]; simp
  refine ⟨a, k, c, yo, yu, by rw [hcl, hco]; exact he, ?_, fun h => hy (hi.1 h), ?_⟩
  · unfold belE; simp only [hi]; exact hr
  · unfold belP; simp only [hi]; exact hs
theorem set2_upd (W : World) (b : Nat) (v u : Value) : Upd W ((W.setCell ⟨b, 0, none⟩ v).setCell ⟨b, 1, none⟩ u) b := (Upd.set _ _ _ _).trans (Upd.set _ _ _ _)
set_option maxRecDepth 20000 in
set_option maxHeartbeats 8000000 in
theorem element_any {w : World} (g b off n c p q m dp : Nat) (M : List Int) (hR : Rdb w g b off n c p q) (hM : Rd .u8 w b off M) (uM : U8s M) (hMl : M.length = n) (hq : q ≤ n) (hn : n ≤ 16777216) (hnc : n ≤ c) (hb : b < w.heap.size) (hbg : b ≠ g) :
    Calls Tryz.prog 60 #[.pointer (some ⟨g, 0, none⟩), .int .i64 (m : Int), .int .i64 (dp : Int)] w fun e w' => BelAns M p q m dp w.heap.size w' e (fun j => Rdb w' g b off n c j q) ∧ Upd w w' g := by
  obtain ⟨R, hRR⟩ : ∃ R, belS M p q m dp = R := ⟨_, rfl⟩
  have HR : Hid (belS M p q m dp = R) := hRR
  have hgl := hR.lt
  unfold BelAns
  rw [hRR]
  have HX : Hid (Rdb w g b off n c p q ∧ Rd .u8 w b off M ∧ U8s M ∧ M.length = n) := ⟨hR, hM, uM, hMl⟩
  clear hR hM uM hMl hRR
  go_enter Tryz.func60, Tryz.ntmps60
  go_upto_region 1 with (fail)
  refine wp_gen (fun W => Upd w W g ∧ Rdb W g b off n c p q ∧ Blk 59 W w.heap.size zE ∧ Blk 103 W (w.heap.size + 1) zP) ?_ ?_
  · have hB1 : Below w.heap.size w ((w.alloc (.cells zE.toArray 59)).alloc (.cells zP.toArray 103)) := (al1 _).alloc (by simp) _
    exact ⟨Below.upd hB1, (HX.out.1.alloc _).alloc _, (Blk.new _ w _).alloc _, blk_nw (by simp) rfl⟩
  rintro w1 ⟨hu1, hr1, hx1, hp1⟩
  have H1 : Hid (Upd w w1 g ∧ Rdb w1 g b off n c p q ∧ Blk 59 w1 w.heap.size zE ∧ Blk 103 w1 (w.heap.size + 1) zP) := ⟨hu1, hr1, hx1, hp1⟩
  clear hu1 hr1 hx1 hp1
  have hwg : ¬ w.heap.size = g := by omega
  have hgw : ¬ g = w.heap.size := by omega
  have hwg1 : ¬ w.heap.size + 1 = g := by omega
  have hgw1 : ¬ g = w.heap.size + 1 := by omega
  by_cases hm1 : m = 65536
  · have hmI : ((m : Int) == 65536) = true := by simp; omega
    have HE : Hid (R = .inl (4, p)) := by show _ = _; rw [← HR.out]; unfold belS; rw [if_pos hm1]
    have hE9 := HE.out
    subst hE9
    have r1 : w1.cell? ⟨g, 1, none⟩ = some (.int .i64 p) := H1.out.2.1.cell 1
    clear hm1
    go_upto_region 2 with (fail)
    have hXd : Blk 59 w1.drew w.heap.size [.int .i64 0, .int .i64 0, .int .i64 0, .bool false, .slice none 0 0] := H1.out.2.2.1
    have hPd : Blk 103 w1.drew (w.heap.size + 1) [.bool false, .int .i64 0] := H1.out.2.2.2
    have hUd : Upd w w1.drew g := H1.out.1.trans (upd_drewN _ 1 _)
    refine wp_region_still (fun k => ([.agg #[.int .i64 0, .int .i64 0, .int .i64 0, .bool false, .slice none 0 0], .agg #[.bool false, .int .i64 0], .pointer (some ⟨g, 0, none⟩), .pointer (some ⟨g, 0, none⟩), .pointer (some ⟨g, 1, none⟩), .int .i64 (p : Int), erV 4 p, undef, undef, erV 4 p] : List Value).getD k undef) (fun W => Blk 59 W w.heap.size [.int .i64 0, .int .i64 0, .int .i64 0, .bool false, .slice none 0 0] ∧ Blk 103 W (w.heap.size + 1) [.bool false, .int .i64 0] ∧ Upd w W g ∧ Rdb W g b off n c p q) rfl (by decide +kernel) (show dstB _ 100 = true by decide +kernel) ⟨hXd, hPd, hUd, H1.out.2.1⟩ (fun W hS => ?_) (fun i L W a hi hno hdep hv hn h0 hS => ?_)
    rotate_left
    · replace hi : i < 10 := hi
      obtain rfl | rfl | rfl | rfl | rfl | rfl | rfl | rfl | rfl | rfl : i = 0 ∨ i = 1 ∨ i = 2 ∨ i = 3 ∨ i = 4 ∨ i = 5 ∨ i = 6 ∨ i = 7 ∨ i = 8 ∨ i = 9 := by omega
      · exact det_load rfl rfl rfl ((h0 6 (by decide +kernel)).trans rfl) hS.1.whole Tryz.underlying59 rfl Tryz.sizeE rfl hS
      · exact det_load rfl rfl rfl ((h0 7 (by decide +kernel)).trans rfl) hS.2.1.whole Tryz.underlying103 rfl Tryz.sizeP rfl hS
      · exact det_val rfl rfl (run_mv rfl ((h0 0 (by decide +kernel)).trans rfl)) hS
      · exact det_val rfl rfl (run_nilc rfl (hv 2 _ (show 2 < 10 by decide) (hdep 2 (by decide +kernel)) rfl)) hS
      · exact det_val rfl rfl (run_faR rfl (hv 3 _ (show 3 < 10 by decide) (hdep 3 (by decide +kernel)) rfl) (by decide)) hS
      · exact det_val rfl rfl (run_ldI rfl (hv 4 _ (show 4 < 10 by decide) (hdep 4 (by decide +kernel)) rfl) (hS.2.2.2.cell 1)) hS
      · exact det_call rfl rfl (run_callF rfl (hv 5 _ (show 5 < 10 by decide) (hdep 5 (by decide +kernel)) rfl)) (R := fun w' => W = w') (fault_any 4 p) (fun w' h => by subst h; exact hS)
      · exact det_store (cells := #[.int .i64 0, .int .i64 0, .int .i64 0, .bool false, .slice none 0 0]) rfl rfl rfl rfl ((h0 6 (by decide +kernel)).trans rfl) (hv 0 _ (show 0 < 10 by decide) (hdep 0 (by decide +kernel)) rfl) (hS.1.there 0 5 (Nat.le_refl 5)) Tryz.sizeE (oneA _ _ _ _ _ _ _) ⟨hS.1.fill [.int .i64 0, .int .i64 0, .int .i64 0, .bool false, .slice none 0 0] rfl, (Upd.setCells _ _ _).blk hS.2.1 (by omega), hS.2.2.1.more (Upd.setCells _ _ _) (Nat.le_refl _), (Upd.setCells _ _ _).blk hS.2.2.2 (by omega)⟩
      · exact det_store (cells := #[.bool false, .int .i64 0]) rfl rfl rfl rfl ((h0 7 (by decide +kernel)).trans rfl) (hv 1 _ (show 1 < 10 by decide) (hdep 1 (by decide +kernel)) rfl) (hS.2.1.there 0 2 (Nat.le_refl 2)) Tryz.sizeP (oneB _ _) ⟨(Upd.setCells _ _ _).blk hS.1 (by omega), hS.2.1.fill [.bool false, .int .i64 0] rfl, hS.2.2.1.more (Upd.setCells _ _ _) (Nat.le_succ _), (Upd.setCells _ _ _).blk hS.2.2.2 (by omega)⟩
      · exact det_val rfl rfl (run_asg rfl (hv 6 _ (show 6 < 10 by decide) (hdep 6 (by decide +kernel)) rfl)) hS
    rw [frF10 rfl rfl rfl rfl rfl rfl rfl rfl rfl rfl rfl]
    simp only [List.setIfInBounds_toArray, List.set_cons_succ, List.set_cons_zero, List.getD_cons_zero, List.getD_cons_succ]
    go_wp2
    refine bodyPost_ret (results_blk3 rfl rfl rfl hS.1 hS.2.1 Tryz.underlying59 rfl Tryz.sizeE Tryz.underlying103 rfl Tryz.sizeP rfl) rfl ⟨BelOut.bad _ _ _ _ _ _ rfl, hS.2.2.1⟩
  have hmI : ((m : Int) == 65536) = false := by simp; omega
  by_cases hd1 : dp = 64
  · have hdI : ((dp : Int) == 64) = true := by simp; omega
    have HE : Hid (R = .inl (32, p)) := by show _ = _; rw [← HR.out]; unfold belS; rw [if_neg hm1, if_pos hd1]
    have hE9 := HE.out
    subst hE9
    have r1 : w1.cell? ⟨g, 1, none⟩ = some (.int .i64 p) := H1.out.2.1.cell 1
    clear hd1
    go_upto_region 4 with (fail)
    have hXd : Blk 59 w1.drew w.heap.size [.int .i64 0, .int .i64 0, .int .i64 0, .bool false, .slice none 0 0] := H1.out.2.2.1
    have hPd : Blk 103 w1.drew (w.heap.size + 1) [.bool false, .int .i64 0] := H1.out.2.2.2
    have hUd : Upd w w1.drew g := H1.out.1.trans (upd_drewN _ 1 _)
    refine wp_region_still (fun k => ([.agg #[.int .i64 0, .int .i64 0, .int .i64 0, .bool false, .slice none 0 0], .agg #[.bool false, .int .i64 0], .pointer (some ⟨g, 0, none⟩), .pointer (some ⟨g, 0, none⟩), .pointer (some ⟨g, 1, none⟩), .int .i64 (p : Int), erV 32 p, undef, undef, erV 32 p] : List Value).getD k undef) (fun W => Blk 59 W w.heap.size [.int .i64 0, .int .i64 0, .int .i64 0, .bool false, .slice none 0 0] ∧ Blk 103 W (w.heap.size + 1) [.bool false, .int .i64 0] ∧ Upd w W g ∧ Rdb W g b off n c p q) rfl (by decide +kernel) (show dstB _ 100 = true by decide +kernel) ⟨hXd, hPd, hUd, H1.out.2.1⟩ (fun W hS => ?_) (fun i L W a hi hno hdep hv hn h0 hS => ?_)
    rotate_left
    · replace hi : i < 10 := hi
      obtain rfl | rfl | rfl | rfl | rfl | rfl | rfl | rfl | rfl | rfl : i = 0 ∨ i = 1 ∨ i = 2 ∨ i = 3 ∨ i = 4 ∨ i = 5 ∨ i = 6 ∨ i = 7 ∨ i = 8 ∨ i = 9 := by omega
      · exact det_load rfl rfl rfl ((h0 6 (by decide +kernel)).trans rfl) hS.1.whole Tryz.underlying59 rfl Tryz.sizeE rfl hS
      · exact det_load rfl rfl rfl ((h0 7 (by decide +kernel)).trans rfl) hS.2.1.whole Tryz.underlying103 rfl Tryz.sizeP rfl hS
      · exact det_val rfl rfl (run_mv rfl ((h0 0 (by decide +kernel)).trans rfl)) hS
      · exact det_val rfl rfl (run_nilc rfl (hv 2 _ (show 2 < 10 by decide) (hdep 2 (by decide +kernel)) rfl)) hS
      · exact det_val rfl rfl (run_faR rfl (hv 3 _ (show 3 < 10 by decide) (hdep 3 (by decide +kernel)) rfl) (by decide)) hS
      · exact det_val rfl rfl (run_ldI rfl (hv 4 _ (show 4 < 10 by decide) (hdep 4 (by decide +kernel)) rfl) (hS.2.2.2.cell 1)) hS
      · exact det_call rfl rfl (run_callF rfl (hv 5 _ (show 5 < 10 by decide) (hdep 5 (by decide +kernel)) rfl)) (R := fun w' => W = w') (fault_any 32 p) (fun w' h => by subst h; exact hS)
      · exact det_store (cells := #[.int .i64 0, .int .i64 0, .int .i64 0, .bool false, .slice none 0 0]) rfl rfl rfl rfl ((h0 6 (by decide +kernel)).trans rfl) (hv 0 _ (show 0 < 10 by decide) (hdep 0 (by decide +kernel)) rfl) (hS.1.there 0 5 (Nat.le_refl 5)) Tryz.sizeE (oneA _ _ _ _ _ _ _) ⟨hS.1.fill [.int .i64 0, .int .i64 0, .int .i64 0, .bool false, .slice none 0 0] rfl, (Upd.setCells _ _ _).blk hS.2.1 (by omega), hS.2.2.1.more (Upd.setCells _ _ _) (Nat.le_refl _), (Upd.setCells _ _ _).blk hS.2.2.2 (by omega)⟩
      · exact det_store (cells := #[.bool false, .int .i64 0]) rfl rfl rfl rfl ((h0 7 (by decide +kernel)).trans rfl) (hv 1 _ (show 1 < 10 by decide) (hdep 1 (by decide +kernel)) rfl) (hS.2.1.there 0 2 (Nat.le_refl 2)) Tryz.sizeP (oneB _ _) ⟨(Upd.setCells _ _ _).blk hS.1 (by omega), hS.2.1.fill [.bool false, .int .i64 0] rfl, hS.2.2.1.more (Upd.setCells _ _ _) (Nat.le_succ _), (Upd.setCells _ _ _).blk hS.2.2.2 (by omega)⟩
      · exact det_val rfl rfl (run_asg rfl (hv 6 _ (show 6 < 10 by decide) (hdep 6 (by decide +kernel)) rfl)) hS
    rw [frF10 rfl rfl rfl rfl rfl rfl rfl rfl rfl rfl rfl]
    simp only [List.setIfInBounds_toArray, List.set_cons_succ, List.set_cons_zero, List.getD_cons_zero, List.getD_cons_succ]
    go_wp2
    refine bodyPost_ret (results_blk3 rfl rfl rfl hS.1 hS.2.1 Tryz.underlying59 rfl Tryz.sizeE Tryz.underlying103 rfl Tryz.sizeP rfl) rfl ⟨BelOut.bad _ _ _ _ _ _ rfl, hS.2.2.1⟩
  have hdI : ((dp : Int) == 64) = false := by simp; omega
  by_cases hpq : q ≤ p
  · have HE : Hid (R = .inl (2, q)) := by show _ = _; rw [← HR.out]; unfold belS; rw [if_neg hm1, if_neg hd1, if_pos hpq]
    have hE9 := HE.out
    subst hE9
    go_upto_region 5 with (fail)
    go_wp2_with fail
    refine (head_end g b off n c p q H1.out.2.1 hpq).mono ?_
    rintro e w2 ⟨rfl, hu2⟩
    have hX2 : Blk 59 w2 w.heap.size zE := hu2.blk H1.out.2.2.1 (by omega)
    have H2 : Hid (Upd w w2 g ∧ Blk 59 w2 w.heap.size zE ∧ Blk 103 w2 (w.heap.size + 1) zP) := ⟨H1.out.1.trans hu2, hX2, hu2.blk H1.out.2.2.2 (by omega)⟩
    have d0 : w2.cell? ⟨w.heap.size, 0, none⟩ = some (.int .i64 0) := hX2.cell 0
    have d1 : w2.cell? ⟨w.heap.size, 1, none⟩ = some (.int .i64 0) := hX2.cell 1
    have d2 : w2.cell? ⟨w.heap.size, 2, none⟩ = some (.int .i64 0) := hX2.cell 2
    have d3 : w2.cell? ⟨w.heap.size, 3, none⟩ = some (.bool false) := hX2.cell 3
    have d4 : w2.cell? ⟨w.heap.size, 4, none⟩ = some (.slice none 0 0) := hX2.cell 4
    have f0 := hX2.frozen 0
    have f1 := hX2.frozen 1
    have f2 := hX2.frozen 2
    have f3 := hX2.frozen 3
    have f4 := hX2.frozen 4
    clear hu2 hX2
    go_upto_region 7 with (fail)
    refine wp_gen (fun W => Upd w W g ∧ Blk 59 W w.heap.size zE ∧ Blk 103 W (w.heap.size + 1) zP) ?_ ?_
    · have hU := (((((Upd.set w2 w.heap.size 0 (.int .i64 0)).trans (Upd.set _ _ 1 (.int .i64 0))).trans (Upd.set _ _ 2 (.int .i64 0))).trans (Upd.set _ _ 3 (.bool false))).trans (Upd.set _ _ 4 (.slice none 0 0)))
      exact ⟨H2.out.1.more hU (Nat.le_refl _), (((((H2.out.2.1.set 0 (.int .i64 0)).set 1 (.int .i64 0)).set 2 (.int .i64 0)).set 3 (.bool false)).set 4 (.slice none 0 0)), hU.blk H2.out.2.2 (by omega)⟩
    rintro w3 h3
    have H3 : Hid (Upd w w3 g ∧ Blk 59 w3 w.heap.size zE ∧ Blk 103 w3 (w.heap.size + 1) zP) := h3
    clear h3
    clear d0 d1 d2 d3 d4 f0 f1 f2 f3 f4
    go_upto_region 7 with (fail)
    have hXd : Blk 59 w3.drew w.heap.size [.int .i64 0, .int .i64 0, .int .i64 0, .bool false, .slice none 0 0] := H3.out.2.1
    have hPd : Blk 103 w3.drew (w.heap.size + 1) [.bool false, .int .i64 0] := H3.out.2.2
    have hUd : Upd w w3.drew g := H3.out.1.trans (upd_drewN _ 1 _)
    refine wp_region_still (fun k => ([.agg #[.int .i64 0, .int .i64 0, .int .i64 0, .bool false, .slice none 0 0], .agg #[.bool false, .int .i64 0], erV 2 q, undef, undef, erV 2 q] : List Value).getD k undef) (fun W => Blk 59 W w.heap.size [.int .i64 0, .int .i64 0, .int .i64 0, .bool false, .slice none 0 0] ∧ Blk 103 W (w.heap.size + 1) [.bool false, .int .i64 0] ∧ Upd w W g ∧ True) rfl (by decide +kernel) (show dstB _ 100 = true by decide +kernel) ⟨hXd, hPd, hUd, trivial⟩ (fun W hS => ?_) (fun i L W a hi hno hdep hv hn h0 hS => ?_)
    rotate_left
    · replace hi : i < 6 := hi
      obtain rfl | rfl | rfl | rfl | rfl | rfl : i = 0 ∨ i = 1 ∨ i = 2 ∨ i = 3 ∨ i = 4 ∨ i = 5 := by omega
      · exact det_load rfl rfl rfl ((h0 6 (by decide +kernel)).trans rfl) hS.1.whole Tryz.underlying59 rfl Tryz.sizeE rfl hS
      · exact det_load rfl rfl rfl ((h0 7 (by decide +kernel)).trans rfl) hS.2.1.whole Tryz.underlying103 rfl Tryz.sizeP rfl hS
      · exact det_val rfl rfl (run_mv rfl ((Classical.em (Up L 5)).elim (fun u => hv 5 8 (show 5 < 6 by decide) u rfl) (fun u => (hn 5 8 (show 5 < 6 by decide) u rfl).trans rfl))) hS
      · exact det_store (cells := #[.int .i64 0, .int .i64 0, .int .i64 0, .bool false, .slice none 0 0]) rfl rfl rfl rfl ((h0 6 (by decide +kernel)).trans rfl) (hv 0 _ (show 0 < 6 by decide) (hdep 0 (by decide +kernel)) rfl) (hS.1.there 0 5 (Nat.le_refl 5)) Tryz.sizeE (oneA _ _ _ _ _ _ _) ⟨hS.1.fill [.int .i64 0, .int .i64 0, .int .i64 0, .bool false, .slice none 0 0] rfl, (Upd.setCells _ _ _).blk hS.2.1 (by omega), hS.2.2.1.more (Upd.setCells _ _ _) (Nat.le_refl _), trivial⟩
      · exact det_store (cells := #[.bool false, .int .i64 0]) rfl rfl rfl rfl ((h0 7 (by decide +kernel)).trans rfl) (hv 1 _ (show 1 < 6 by decide) (hdep 1 (by decide +kernel)) rfl) (hS.2.1.there 0 2 (Nat.le_refl 2)) Tryz.sizeP (oneB _ _) ⟨(Upd.setCells _ _ _).blk hS.1 (by omega), hS.2.1.fill [.bool false, .int .i64 0] rfl, hS.2.2.1.more (Upd.setCells _ _ _) (Nat.le_succ _), trivial⟩
      · exact det_val rfl rfl (run_asg rfl (hv 2 _ (show 2 < 6 by decide) (hdep 2 (by decide +kernel)) rfl)) hS
    rw [frF6 rfl rfl rfl rfl rfl rfl rfl]
    simp only [List.setIfInBounds_toArray, List.set_cons_succ, List.set_cons_zero, List.getD_cons_zero, List.getD_cons_succ]
    go_wp2
    refine bodyPost_ret (results_blk3 rfl rfl rfl hS.1 hS.2.1 Tryz.underlying59 rfl Tryz.sizeE Tryz.underlying103 rfl Tryz.sizeP rfl) rfl ⟨BelOut.bad _ _ _ _ _ _ rfl, hS.2.2.1⟩
  obtain ⟨x, hx⟩ : ∃ x, M.getD p 0 = x := ⟨_, rfl⟩
  obtain ⟨cl, hcl⟩ : ∃ cl, x / 64 = cl := ⟨_, rfl⟩
  obtain ⟨co, hco⟩ : ∃ co : Bool, decide (x / 32 % 2 = 1) = co := ⟨_, rfl⟩
  obtain ⟨O, hO⟩ : ∃ O, tagS (M.take q) p = O := ⟨_, rfl⟩
  have HO : Hid (tagS (M.take q) p = O ∧ M.getD p 0 = x ∧ x / 64 = cl ∧ decide (x / 32 % 2 = 1) = co ∧ m ≠ 65536 ∧ dp ≠ 64 ∧ p < q) := ⟨hO, hx, hcl, hco, hm1, hd1, by omega⟩
  have HQ : Hid ((M.take q).length = q ∧ U8s (M.take q) ∧ p < q) := ⟨by rw [List.length_take]; have := HX.out.2.2.2; omega, take_u8 HX.out.2.2.1 q, by omega⟩
  have HRd : Hid (∀ W, Upd w W g → Rd .u8 W b off (M.take q) ∧ b < W.heap.size) := fun W h => ⟨rd_take (h.rd hb HX.out.2.1 hbg) q, Nat.lt_of_lt_of_le hb h.size⟩
  go_upto_region 5 with (fail)
  go_wp2_with fail
  refine (head_any g b off n c p q x (M.take q) H1.out.2.1 (HRd.out _ H1.out.1).1 HQ.out.2.1 HQ.out.1 hq hn (HRd.out _ H1.out.1).2 hbg HQ.out.2.2 (by rw [take_getD HQ.out.2.2, hx])).mono ?_
  rw [hO, hcl, hco]
  rintro e w2 ⟨⟨t, ht, rfl⟩, hu2, hs2⟩
  have hX2 : Blk 59 w2 w.heap.size zE := hu2.blk H1.out.2.2.1 (by omega)
  obtain ⟨er, her⟩ : ∃ er, O.er = er := ⟨_, rfl⟩
  have H2 : Hid (Upd w w2 g ∧ Blk 59 w2 w.heap.size zE ∧ Blk 103 w2 (w.heap.size + 1) zP ∧ (Stands O fun j => Rdb w2 g b off n c j q) ∧ (∀ v j, O = .inr (v, j) → t = v) ∧ O.er = er) := ⟨H1.out.1.trans hu2, hX2, hu2.blk H1.out.2.2.2 (by omega), hs2, ht, her⟩
  have d0 : w2.cell? ⟨w.heap.size, 0, none⟩ = some (.int .i64 0) := hX2.cell 0
  have d1 : w2.cell? ⟨w.heap.size, 1, none⟩ = some (.int .i64 0) := hX2.cell 1
  have d2 : w2.cell? ⟨w.heap.size, 2, none⟩ = some (.int .i64 0) := hX2.cell 2
  have d3 : w2.cell? ⟨w.heap.size, 3, none⟩ = some (.bool false) := hX2.cell 3
  have d4 : w2.cell? ⟨w.heap.size, 4, none⟩ = some (.slice none 0 0) := hX2.cell 4
  have f0 := hX2.frozen 0
  have f1 := hX2.frozen 1
  have f2 := hX2.frozen 2
  have f3 := hX2.frozen 3
  have f4 := hX2.frozen 4
  rw [her]
  clear hu2 hX2 hs2 ht her hx hcl hco hO hm1 hd1
  go_upto_region 6 with (fail)
  refine wp_gen (fun W => Upd w W g ∧ Blk 59 W w.heap.size [.int .i64 0, .int .i64 cl, .int .i64 t, .bool co, .slice none 0 0] ∧ Blk 103 W (w.heap.size + 1) [.bool false, .int .i64 0] ∧ Stands O fun j => Rdb W g b off n c j q) ?_ ?_
  · have hU := (((((Upd.set w2 w.heap.size 0 (.int .i64 0)).trans (Upd.set _ _ 1 (.int .i64 cl))).trans (Upd.set _ _ 2 (.int .i64 t))).trans (Upd.set _ _ 3 (.bool co))).trans (Upd.set _ _ 4 (.slice none 0 0)))
    exact ⟨H2.out.1.more hU (Nat.le_refl _), (((((H2.out.2.1.set 0 (.int .i64 0)).set 1 (.int .i64 cl)).set 2 (.int .i64 t)).set 3 (.bool co)).set 4 (.slice none 0 0)), hU.blk H2.out.2.2.1 (by omega), fun v j h => hU.blk (H2.out.2.2.2.1 v j h) (by omega)⟩
  rintro w3 h3
  have H3 : Hid (Upd w w3 g ∧ Blk 59 w3 w.heap.size [.int .i64 0, .int .i64 cl, .int .i64 t, .bool co, .slice none 0 0] ∧ Blk 103 w3 (w.heap.size + 1) [.bool false, .int .i64 0] ∧ Stands O fun j => Rdb w3 g b off n c j q) := h3
  clear h3
  clear d0 d1 d2 d3 d4 f0 f1 f2 f3 f4
  cases O with
  | inl ea =>
    obtain ⟨e1, a1⟩ := ea
    have hE : er = erV e1 a1 := H2.out.2.2.2.2.2.symm
    subst hE
    have HE : Hid (R = .inl (e1, a1)) := by show _ = _; rw [← HR.out]; exact belS_tag HO.out.2.2.2.2.1 HO.out.2.2.2.2.2.1 HO.out.2.2.2.2.2.2 HO.out.1
    have hE9 := HE.out
    subst hE9
    go_upto_region 7 with (fail)
    have hXd : Blk 59 w3.drew w.heap.size [.int .i64 0, .int .i64 cl, .int .i64 t, .bool co, .slice none 0 0] := H3.out.2.1
    have hPd : Blk 103 w3.drew (w.heap.size + 1) [.bool false, .int .i64 0] := H3.out.2.2.1
    have hUd : Upd w w3.drew g := H3.out.1.trans (upd_drewN _ 1 _)
    refine wp_region_still (fun k => ([.agg #[.int .i64 0, .int .i64 cl, .int .i64 t, .bool co, .slice none 0 0], .agg #[.bool false, .int .i64 0], erV e1 a1, undef, undef, erV e1 a1] : List Value).getD k undef) (fun W => Blk 59 W w.heap.size [.int .i64 0, .int .i64 cl, .int .i64 t, .bool co, .slice none 0 0] ∧ Blk 103 W (w.heap.size + 1) [.bool false, .int .i64 0] ∧ Upd w W g ∧ True) rfl (by decide +kernel) (show dstB _ 100 = true by decide +kernel) ⟨hXd, hPd, hUd, trivial⟩ (fun W hS => ?_) (fun i L W a hi hno hdep hv hn h0 hS => ?_)
    rotate_left
    · replace hi : i < 6 := hi
      obtain rfl | rfl | rfl | rfl | rfl | rfl : i = 0 ∨ i = 1 ∨ i = 2 ∨ i = 3 ∨ i = 4 ∨ i = 5 := by omega
      · exact det_load rfl rfl rfl ((h0 6 (by decide +kernel)).trans rfl) hS.1.whole Tryz.underlying59 rfl Tryz.sizeE rfl hS
      · exact det_load rfl rfl rfl ((h0 7 (by decide +kernel)).trans rfl) hS.2.1.whole Tryz.underlying103 rfl Tryz.sizeP rfl hS
      · exact det_val rfl rfl (run_mv rfl ((Classical.em (Up L 5)).elim (fun u => hv 5 8 (show 5 < 6 by decide) u rfl) (fun u => (hn 5 8 (show 5 < 6 by decide) u rfl).trans rfl))) hS
      · exact det_store (cells := #[.int .i64 0, .int .i64 cl, .int .i64 t, .bool co, .slice none 0 0]) rfl rfl rfl rfl ((h0 6 (by decide +kernel)).trans rfl) (hv 0 _ (show 0 < 6 by decide) (hdep 0 (by decide +kernel)) rfl) (hS.1.there 0 5 (Nat.le_refl 5)) Tryz.sizeE (oneA _ _ _ _ _ _ _) ⟨hS.1.fill [.int .i64 0, .int .i64 cl, .int .i64 t, .bool co, .slice none 0 0] rfl, (Upd.setCells _ _ _).blk hS.2.1 (by omega), hS.2.2.1.more (Upd.setCells _ _ _) (Nat.le_refl _), trivial⟩
      · exact det_store (cells := #[.bool false, .int .i64 0]) rfl rfl rfl rfl ((h0 7 (by decide +kernel)).trans rfl) (hv 1 _ (show 1 < 6 by decide) (hdep 1 (by decide +kernel)) rfl) (hS.2.1.there 0 2 (Nat.le_refl 2)) Tryz.sizeP (oneB _ _) ⟨(Upd.setCells _ _ _).blk hS.1 (by omega), hS.2.1.fill [.bool false, .int .i64 0] rfl, hS.2.2.1.more (Upd.setCells _ _ _) (Nat.le_succ _), trivial⟩
      · exact det_val rfl rfl (run_asg rfl (hv 2 _ (show 2 < 6 by decide) (hdep 2 (by decide +kernel)) rfl)) hS
    rw [frF6 rfl rfl rfl rfl rfl rfl rfl]
    simp only [List.setIfInBounds_toArray, List.set_cons_succ, List.set_cons_zero, List.getD_cons_zero, List.getD_cons_succ]
    go_wp2
    refine bodyPost_ret (results_blk3 rfl rfl rfl hS.1 hS.2.1 Tryz.underlying59 rfl Tryz.sizeE Tryz.underlying103 rfl Tryz.sizeP rfl) rfl ⟨BelOut.bad _ _ _ _ _ _ rfl, hS.2.2.1⟩
  | inr vj =>
    obtain ⟨tg, i⟩ := vj
    have hE : er = .nilIface := H2.out.2.2.2.2.2.symm
    subst hE
    obtain rfl : t = tg := H2.out.2.2.2.2.1 tg i rfl
    have ht := tagS_ok HQ.out.2.1 (by have := HQ.out; omega) HO.out.1
    have hiq : i ≤ q := by have := HQ.out.1; omega
    obtain ⟨L, hL⟩ : ∃ L, blen (M.take q) i co = L := ⟨_, rfl⟩
    have HL : Hid (blen (M.take q) i co = L) := hL
    have d3 : w3.cell? ⟨w.heap.size, 3, none⟩ = some (.bool co) := H3.out.2.1.cell 3
    go_upto_region 8 with (fail)
    go_wp2_with fail
    refine (length_any g b off n c i q co (M.take q) (H3.out.2.2.2 _ _ rfl) (HRd.out _ H3.out.1).1 HQ.out.2.1 HQ.out.1 hq hn (HRd.out _ H3.out.1).2 hbg hiq).mono ?_
    rw [hL]
    rintro e w4 ⟨rfl, hu4, hs4⟩
    have H4 : Hid (Upd w w4 g ∧ Blk 59 w4 w.heap.size [.int .i64 0, .int .i64 cl, .int .i64 t, .bool co, .slice none 0 0] ∧ Blk 103 w4 (w.heap.size + 1) [.bool false, .int .i64 0] ∧ Stands L fun j => Rdb w4 g b off n c j q) := ⟨H3.out.1.trans hu4, hu4.blk H3.out.2.1 (by omega), hu4.blk H3.out.2.2.1 (by omega), hs4⟩
    have HBS : Hid (belS M p q m dp = capB t L) := belS_at2 HO.out.2.2.2.2.1 HO.out.2.2.2.2.2.1 HO.out.2.2.2.2.2.2 HO.out.1 (by rw [HO.out.2.1]; exact HO.out.2.2.2.1) HL.out
    clear hu4 hs4 d3 hL
    cases L with
    | inl ea =>
      obtain ⟨e1, a1⟩ := ea
      have HE : Hid (R = .inl (e1, a1)) := by show _ = _; rw [← HR.out]; exact HBS.out
      have hE9 := HE.out
      subst hE9
      simp only [Rs.n0, Rs.v, Rs.er]
      go_upto_region 10 with (fail)
      have hXd : Blk 59 w4.drew w.heap.size [.int .i64 0, .int .i64 cl, .int .i64 t, .bool co, .slice none 0 0] := H4.out.2.1
      have hPd : Blk 103 w4.drew (w.heap.size + 1) [.bool false, .int .i64 0] := H4.out.2.2.1
      have hUd : Upd w w4.drew g := H4.out.1.trans (upd_drewN _ 1 _)
      refine wp_region_still (fun k => ([.agg #[.int .i64 0, .int .i64 cl, .int .i64 t, .bool co, .slice none 0 0], .agg #[.bool false, .int .i64 0], erV e1 a1, undef, undef, erV e1 a1] : List Value).getD k undef) (fun W => Blk 59 W w.heap.size [.int .i64 0, .int .i64 cl, .int .i64 t, .bool co, .slice none 0 0] ∧ Blk 103 W (w.heap.size + 1) [.bool false, .int .i64 0] ∧ Upd w W g ∧ True) rfl (by decide +kernel) (show dstB _ 100 = true by decide +kernel) ⟨hXd, hPd, hUd, trivial⟩ (fun W hS => ?_) (fun i L W a hi hno hdep hv hn h0 hS => ?_)
      rotate_left
      · replace hi : i < 6 := hi
        obtain rfl | rfl | rfl | rfl | rfl | rfl : i = 0 ∨ i = 1 ∨ i = 2 ∨ i = 3 ∨ i = 4 ∨ i = 5 := by omega
        · exact det_load rfl rfl rfl ((h0 6 (by decide +kernel)).trans rfl) hS.1.whole Tryz.underlying59 rfl Tryz.sizeE rfl hS
        · exact det_load rfl rfl rfl ((h0 7 (by decide +kernel)).trans rfl) hS.2.1.whole Tryz.underlying103 rfl Tryz.sizeP rfl hS
        · exact det_val rfl rfl (run_mv rfl ((Classical.em (Up L 5)).elim (fun u => hv 5 8 (show 5 < 6 by decide) u rfl) (fun u => (hn 5 8 (show 5 < 6 by decide) u rfl).trans rfl))) hS
        · exact det_store (cells := #[.int .i64 0, .int .i64 cl, .int .i64 t, .bool co, .slice none 0 0]) rfl rfl rfl rfl ((h0 6 (by decide +kernel)).trans rfl) (hv 0 _ (show 0 < 6 by decide) (hdep 0 (by decide +kernel)) rfl) (hS.1.there 0 5 (Nat.le_refl 5)) Tryz.sizeE (oneA _ _ _ _ _ _ _) ⟨hS.1.fill [.int .i64 0, .int .i64 cl, .int .i64 t, .bool co, .slice none 0 0] rfl, (Upd.setCells _ _ _).blk hS.2.1 (by omega), hS.2.2.1.more (Upd.setCells _ _ _) (Nat.le_refl _), trivial⟩
        · exact det_store (cells := #[.bool false, .int .i64 0]) rfl rfl rfl rfl ((h0 7 (by decide +kernel)).trans rfl) (hv 1 _ (show 1 < 6 by decide) (hdep 1 (by decide +kernel)) rfl) (hS.2.1.there 0 2 (Nat.le_refl 2)) Tryz.sizeP (oneB _ _) ⟨(Upd.setCells _ _ _).blk hS.1 (by omega), hS.2.1.fill [.bool false, .int .i64 0] rfl, hS.2.2.1.more (Upd.setCells _ _ _) (Nat.le_succ _), trivial⟩
        · exact det_val rfl rfl (run_asg rfl (hv 2 _ (show 2 < 6 by decide) (hdep 2 (by decide +kernel)) rfl)) hS
      rw [frF6 rfl rfl rfl rfl rfl rfl rfl]
      simp only [List.setIfInBounds_toArray, List.set_cons_succ, List.set_cons_zero, List.getD_cons_zero, List.getD_cons_succ]
      go_wp2
      refine bodyPost_ret (results_blk3 rfl rfl rfl hS.1 hS.2.1 Tryz.underlying59 rfl Tryz.sizeE Tryz.underlying103 rfl Tryz.sizeP rfl) rfl ⟨BelOut.bad _ _ _ _ _ _ rfl, hS.2.2.1⟩
    | inr lj =>
      obtain ⟨l, j⟩ := lj
      have HE : Hid (R = .inr (t, l, j)) := by show _ = _; rw [← HR.out]; exact HBS.out
      have hE9 := HE.out
      subst hE9
      have hlo := blen_ok HQ.out.2.1 HL.out
      have hjq : j ≤ q := by have := HQ.out.1; omega
      have d0 : w4.cell? ⟨w.heap.size, 0, none⟩ = some (.int .i64 0) := H4.out.2.1.cell 0
      have f0 := H4.out.2.1.frozen 0
      have hpd : (M.getD p 0 / 32 % 2 = 1) ↔ co = true := by rw [← HO.out.2.2.2.1, HO.out.2.1]; simp
      have HPD : Hid ((M.getD p 0 / 32 % 2 = 1 ↔ co = true) ∧ M.getD p 0 / 64 = cl ∧ decide (M.getD p 0 / 32 % 2 = 1) = co) := ⟨hpd, by rw [HO.out.2.1]; exact HO.out.2.2.1, by rw [HO.out.2.1]; exact HO.out.2.2.2.1⟩
      clear hpd
      obtain ⟨nl, hnl⟩ : ∃ nl, Rs.n0 (.inr (l, j)) = nl := ⟨_, rfl⟩
      obtain ⟨op, hop⟩ : ∃ op : Bool, decide (Rs.v (.inr (l, j)) = -1) = op := ⟨_, rfl⟩
      simp only [hnl, hop, Rs.er]
      simp only [Rs.n0, Rs.v] at hnl hop
      go_upto_region 14 with (fail)
      refine wp_gen (fun W => Upd w W g ∧ Blk 59 W w.heap.size [.int .i64 (dp : Int), .int .i64 cl, .int .i64 t, .bool co, .slice none 0 0] ∧ Blk 103 W (w.heap.size + 1) [.bool false, .int .i64 0] ∧ Rdb W g b off n c j q) ?_ ?_
      · have hU := Upd.set w4 w.heap.size 0 (.int .i64 (dp : Int))
        exact ⟨H4.out.1.more hU (Nat.le_refl _), H4.out.2.1.set 0 (.int .i64 (dp : Int)), hU.blk H4.out.2.2.1 (by omega), hU.blk (H4.out.2.2.2 _ _ rfl) (by omega)⟩
      rintro w5 h5
      have H5 : Hid (Upd w w5 g ∧ Blk 59 w5 w.heap.size [.int .i64 (dp : Int), .int .i64 cl, .int .i64 t, .bool co, .slice none 0 0] ∧ Blk 103 w5 (w.heap.size + 1) [.bool false, .int .i64 0] ∧ Rdb w5 g b off n c j q) := h5
      clear h5 d0 f0
      have HLO : Hid (l = -1 ∧ co = true ∨ 0 ≤ l ∧ j + l ≤ q) := by
        show _ ∨ _
        rcases hlo.2.2 with h | h
        · exact .inl h
        · refine .inr ⟨h.1, ?_⟩
          have := HQ.out.1
          omega
      clear hlo
      by_cases hl0 : l = -1
      · have hco : co = true := by
          rcases HLO.out with h | h
          · exact h.2
          · omega
        replace hnl : (0 : Int) = nl := by rw [← hnl]; simp [hl0]
        have hop' : op = true := by rw [← hop]; simp [hl0]
        subst hl0
        subst hco
        subst hnl
        subst hop'
        clear hop
        have r2 : w5.cell? ⟨g, 2, none⟩ = some (.int .i64 q) := H5.out.2.2.2.cell 2
        have e0 : w5.cell? ⟨w.heap.size + 1, 0, none⟩ = some (.bool false) := H5.out.2.2.1.cell 0
        have e1 : w5.cell? ⟨w.heap.size + 1, 1, none⟩ = some (.int .i64 0) := H5.out.2.2.1.cell 1
        have h0 := H5.out.2.2.1.frozen 0
        have h1 := H5.out.2.2.1.frozen 1
        go_upto_region 18 with (fail)
        refine wp_gen (fun W => Upd w W g ∧ Blk 59 W w.heap.size [.int .i64 (dp : Int), .int .i64 cl, .int .i64 t, .bool true, .slice none 0 0] ∧ Blk 103 W (w.heap.size + 1) [.bool true, .int .i64 (q : Int)] ∧ Rdb W g b off n c (j) q) ?_ ?_
        · have hU := set2_upd w5 (w.heap.size + 1) (.bool true) (.int .i64 (q : Int))
          exact ⟨H5.out.1.more hU (by omega), hU.blk H5.out.2.1 (by omega), (H5.out.2.2.1.set 0 (.bool true)).set 1 (.int .i64 (q : Int)), hU.blk H5.out.2.2.2 (by omega)⟩
        rintro w6 h6
        have H6 : Hid (Upd w w6 g ∧ Blk 59 w6 w.heap.size [.int .i64 (dp : Int), .int .i64 cl, .int .i64 t, .bool true, .slice none 0 0] ∧ Blk 103 w6 (w.heap.size + 1) [.bool true, .int .i64 (q : Int)] ∧ Rdb w6 g b off n c (j) q) := h6
        clear h6 r2 e0 e1 h0 h1
        go_upto_region 18 with (fail)
        have hXd : Blk 59 w6.drew w.heap.size [.int .i64 (dp : Int), .int .i64 cl, .int .i64 t, .bool true, .slice none 0 0] := H6.out.2.1
        have hPd : Blk 103 w6.drew (w.heap.size + 1) [.bool true, .int .i64 (q : Int)] := H6.out.2.2.1
        have hUd : Upd w w6.drew g := H6.out.1.trans (upd_drewN _ 1 _)
        refine wp_region_still (fun k => ([.agg #[.int .i64 (dp : Int), .int .i64 cl, .int .i64 t, .bool true, .slice none 0 0], .agg #[.bool true, .int .i64 (q : Int)], undef, undef, .nilIface] : List Value).getD k undef) (fun W => Blk 59 W w.heap.size [.int .i64 (dp : Int), .int .i64 cl, .int .i64 t, .bool true, .slice none 0 0] ∧ Blk 103 W (w.heap.size + 1) [.bool true, .int .i64 (q : Int)] ∧ Upd w W g ∧ Rdb W g b off n c (j) q) rfl (by decide +kernel) (show dstB _ 100 = true by decide +kernel) ⟨hXd, hPd, hUd, H6.out.2.2.2⟩ (fun W hS => ?_) (fun i L W a hi hno hdep hv hn h0 hS => ?_)
        rotate_left
        · replace hi : i < 5 := hi
          obtain rfl | rfl | rfl | rfl | rfl : i = 0 ∨ i = 1 ∨ i = 2 ∨ i = 3 ∨ i = 4 := by omega
          · exact det_load rfl rfl rfl ((h0 6 (by decide +kernel)).trans rfl) hS.1.whole Tryz.underlying59 rfl Tryz.sizeE rfl hS
          · exact det_load rfl rfl rfl ((h0 7 (by decide +kernel)).trans rfl) hS.2.1.whole Tryz.underlying103 rfl Tryz.sizeP rfl hS
          · exact det_store (cells := #[.int .i64 (dp : Int), .int .i64 cl, .int .i64 t, .bool true, .slice none 0 0]) rfl rfl rfl rfl ((h0 6 (by decide +kernel)).trans rfl) (hv 0 _ (show 0 < 5 by decide) (hdep 0 (by decide +kernel)) rfl) (hS.1.there 0 5 (Nat.le_refl 5)) Tryz.sizeE (oneA _ _ _ _ _ _ _) ⟨hS.1.fill [.int .i64 (dp : Int), .int .i64 cl, .int .i64 t, .bool true, .slice none 0 0] rfl, (Upd.setCells _ _ _).blk hS.2.1 (by omega), hS.2.2.1.more (Upd.setCells _ _ _) (Nat.le_refl _), (Upd.setCells _ _ _).blk hS.2.2.2 (by omega)⟩
          · exact det_store (cells := #[.bool true, .int .i64 (q : Int)]) rfl rfl rfl rfl ((h0 7 (by decide +kernel)).trans rfl) (hv 1 _ (show 1 < 5 by decide) (hdep 1 (by decide +kernel)) rfl) (hS.2.1.there 0 2 (Nat.le_refl 2)) Tryz.sizeP (oneB _ _) ⟨(Upd.setCells _ _ _).blk hS.1 (by omega), hS.2.1.fill [.bool true, .int .i64 (q : Int)] rfl, hS.2.2.1.more (Upd.setCells _ _ _) (Nat.le_succ _), (Upd.setCells _ _ _).blk hS.2.2.2 (by omega)⟩
          · exact det_val rfl rfl (run_asg rfl rfl) hS
        rw [frF5 rfl rfl rfl rfl rfl rfl]
        simp only [List.setIfInBounds_toArray, List.set_cons_succ, List.set_cons_zero, List.getD_cons_zero, List.getD_cons_succ]
        go_wp2
        refine bodyPost_ret (results_blk3 rfl rfl rfl hS.1 hS.2.1 Tryz.underlying59 rfl Tryz.sizeE Tryz.underlying103 rfl Tryz.sizeP rfl) rfl ⟨BelOut.good HPD.out.2.1 HPD.out.2.2 none 0 0 true q rfl (Row.nil _ _ _ _) (fun _ => rfl) hS.2.2.2, hS.2.2.1⟩
      · have hl1 : 0 ≤ l ∧ j + l ≤ q := by
          rcases HLO.out with h | h
          · exact absurd h.1 hl0
          · exact h
        replace hnl : l = nl := by rw [← hnl]; simp [hl0]
        obtain ⟨ln, rfl⟩ := Int.eq_ofNat_of_zero_le hl1.1
        have hop' : op = false := by rw [← hop]; simp [hl0]
        subst hop'
        subst hnl
        have hjl : j + ln ≤ q := by omega
        have hlt : ¬ ((ln : Nat) : Int) < 0 := by omega
        clear hop hl0 hl1
        have hjb : j ≤ 16777216 := by omega
        have hlb : ln ≤ 16777216 := by omega
        have hjI : (j : Int) ≤ 16777216 := by omega
        have hlI : (ln : Int) ≤ 16777216 := by omega
        cases co with
        | true =>
          have d3 : w5.cell? ⟨w.heap.size, 3, none⟩ = some (.bool true) := H5.out.2.1.cell 3
          have r1 : w5.cell? ⟨g, 1, none⟩ = some (.int .i64 j) := H5.out.2.2.2.cell 1
          have e0 : w5.cell? ⟨w.heap.size + 1, 0, none⟩ = some (.bool false) := H5.out.2.2.1.cell 0
          have e1 : w5.cell? ⟨w.heap.size + 1, 1, none⟩ = some (.int .i64 0) := H5.out.2.2.1.cell 1
          have h0 := H5.out.2.2.1.frozen 0
          have h1 := H5.out.2.2.1.frozen 1
          go_upto_region 18 with (fail)
          refine wp_gen (fun W => Upd w W g ∧ Blk 59 W w.heap.size [.int .i64 (dp : Int), .int .i64 cl, .int .i64 t, .bool true, .slice none 0 0] ∧ Blk 103 W (w.heap.size + 1) [.bool false, .int .i64 ((j : Int) + (ln : Int))] ∧ Rdb W g b off n c (j) q) ?_ ?_
          · have hU := set2_upd w5 (w.heap.size + 1) (.bool false) (.int .i64 ((j : Int) + (ln : Int)))
            exact ⟨H5.out.1.more hU (by omega), hU.blk H5.out.2.1 (by omega), (H5.out.2.2.1.set 0 (.bool false)).set 1 (.int .i64 ((j : Int) + (ln : Int))), hU.blk H5.out.2.2.2 (by omega)⟩
          rintro w6 h6
          have H6 : Hid (Upd w w6 g ∧ Blk 59 w6 w.heap.size [.int .i64 (dp : Int), .int .i64 cl, .int .i64 t, .bool true, .slice none 0 0] ∧ Blk 103 w6 (w.heap.size + 1) [.bool false, .int .i64 ((j : Int) + (ln : Int))] ∧ Rdb w6 g b off n c (j) q) := h6
          clear h6 d3 r1 e0 e1 h0 h1
          go_upto_region 18 with (fail)
          have hXd : Blk 59 w6.drew w.heap.size [.int .i64 (dp : Int), .int .i64 cl, .int .i64 t, .bool true, .slice none 0 0] := H6.out.2.1
          have hPd : Blk 103 w6.drew (w.heap.size + 1) [.bool false, .int .i64 ((j : Int) + (ln : Int))] := H6.out.2.2.1
          have hUd : Upd w w6.drew g := H6.out.1.trans (upd_drewN _ 1 _)
          refine wp_region_still (fun k => ([.agg #[.int .i64 (dp : Int), .int .i64 cl, .int .i64 t, .bool true, .slice none 0 0], .agg #[.bool false, .int .i64 ((j : Int) + (ln : Int))], undef, undef, .nilIface] : List Value).getD k undef) (fun W => Blk 59 W w.heap.size [.int .i64 (dp : Int), .int .i64 cl, .int .i64 t, .bool true, .slice none 0 0] ∧ Blk 103 W (w.heap.size + 1) [.bool false, .int .i64 ((j : Int) + (ln : Int))] ∧ Upd w W g ∧ Rdb W g b off n c (j) q) rfl (by decide +kernel) (show dstB _ 100 = true by decide +kernel) ⟨hXd, hPd, hUd, H6.out.2.2.2⟩ (fun W hS => ?_) (fun i L W a hi hno hdep hv hn h0 hS => ?_)
          rotate_left
          · replace hi : i < 5 := hi
            obtain rfl | rfl | rfl | rfl | rfl : i = 0 ∨ i = 1 ∨ i = 2 ∨ i = 3 ∨ i = 4 := by omega
            · exact det_load rfl rfl rfl ((h0 6 (by decide +kernel)).trans rfl) hS.1.whole Tryz.underlying59 rfl Tryz.sizeE rfl hS
            · exact det_load rfl rfl rfl ((h0 7 (by decide +kernel)).trans rfl) hS.2.1.whole Tryz.underlying103 rfl Tryz.sizeP rfl hS
            · exact det_store (cells := #[.int .i64 (dp : Int), .int .i64 cl, .int .i64 t, .bool true, .slice none 0 0]) rfl rfl rfl rfl ((h0 6 (by decide +kernel)).trans rfl) (hv 0 _ (show 0 < 5 by decide) (hdep 0 (by decide +kernel)) rfl) (hS.1.there 0 5 (Nat.le_refl 5)) Tryz.sizeE (oneA _ _ _ _ _ _ _) ⟨hS.1.fill [.int .i64 (dp : Int), .int .i64 cl, .int .i64 t, .bool true, .slice none 0 0] rfl, (Upd.setCells _ _ _).blk hS.2.1 (by omega), hS.2.2.1.more (Upd.setCells _ _ _) (Nat.le_refl _), (Upd.setCells _ _ _).blk hS.2.2.2 (by omega)⟩
            · exact det_store (cells := #[.bool false, .int .i64 ((j : Int) + (ln : Int))]) rfl rfl rfl rfl ((h0 7 (by decide +kernel)).trans rfl) (hv 1 _ (show 1 < 5 by decide) (hdep 1 (by decide +kernel)) rfl) (hS.2.1.there 0 2 (Nat.le_refl 2)) Tryz.sizeP (oneB _ _) ⟨(Upd.setCells _ _ _).blk hS.1 (by omega), hS.2.1.fill [.bool false, .int .i64 ((j : Int) + (ln : Int))] rfl, hS.2.2.1.more (Upd.setCells _ _ _) (Nat.le_succ _), (Upd.setCells _ _ _).blk hS.2.2.2 (by omega)⟩
            · exact det_val rfl rfl (run_asg rfl rfl) hS
          rw [frF5 rfl rfl rfl rfl rfl rfl]
          simp only [List.setIfInBounds_toArray, List.set_cons_succ, List.set_cons_zero, List.getD_cons_zero, List.getD_cons_succ]
          go_wp2
          refine bodyPost_ret (results_blk3 rfl rfl rfl hS.1 hS.2.1 Tryz.underlying59 rfl Tryz.sizeE Tryz.underlying103 rfl Tryz.sizeP rfl) rfl ⟨BelOut.good HPD.out.2.1 HPD.out.2.2 none 0 0 false (j + ln) (by rw [Int.natCast_add]; rfl) (Row.nil _ _ _ _) (fun _ => by rw [if_neg (by omega), Int.toNat_natCast]) hS.2.2.2, hS.2.2.1⟩
        | false =>
          obtain ⟨E, hE⟩ : ∃ E, j + ln = E := ⟨_, rfl⟩
          have hEI : (j : Int) + (ln : Int) = (E : Int) := by omega
          have hEj : E - j = ln := by omega
          have HE9 : Hid (j + ln = E ∧ E - j = ln) := ⟨hE, hEj⟩
          have d3 : w5.cell? ⟨w.heap.size, 3, none⟩ = some (.bool false) := H5.out.2.1.cell 3
          have d4 : w5.cell? ⟨w.heap.size, 4, none⟩ = some (.slice none 0 0) := H5.out.2.1.cell 4
          have r0 : w5.cell? ⟨g, 0, none⟩ = some (.slice (some ⟨b, off, none⟩) n c) := H5.out.2.2.2.cell 0
          have r1 : w5.cell? ⟨g, 1, none⟩ = some (.int .i64 j) := H5.out.2.2.2.cell 1
          obtain ⟨ba, hba⟩ : ∃ ba : Option Addr, (if c = j then some ⟨b, off, none⟩ else some ⟨b, off + j, none⟩) = ba := ⟨_, rfl⟩
          have HC : Hid (∀ W : World, Rd .u8 W b off M → b < W.heap.size → Sl .u8 W (.slice ba (E - j) (c - j)) ((M.drop j).take ln)) := fun W h hb' => by
            have := rd_slo (c := c) hb' h j E (by omega) (by have := HX.out.2.2.2; omega) (by omega)
            rw [← hba, ← HE9.out.2]; exact this
          have hjEI : (j : Int) ≤ (E : Int) := by omega
          have hjE : j ≤ E := by omega
          have hEq : E ≤ q := by omega
          have hEcI : (E : Int) ≤ (c : Int) := by omega
          have hsX1 : w.heap.size + 1 < w5.heap.size := H5.out.2.2.1.lt
          have hsX : w.heap.size < w5.heap.size := by omega
          have hsg : g < w5.heap.size := by omega
          have HB : Hid (Rd .u8 w5 b off M ∧ b < w5.heap.size) := ⟨H5.out.1.rd hb HX.out.2.1 hbg, Nat.lt_of_lt_of_le hb H5.out.1.size⟩
          clear hE hEj
          go_upto_region 12 with (fail)
          refine wp_region_qsd 17 (by kernel_rfl) (by kernel_rfl) ?_
          simp only [List.take_succ_cons, List.take_zero, List.drop_succ_cons, List.drop_zero]
          repeat (go_big_quiet_step (fail))
          refine wpQuiet_nil ?_
          rintro _ ⟨q2, rfl⟩
          refine wpList_ap rfl (.tmp 55) (.tmp 70) 22 22 rfl .u8 5 1 Tryz.und8 Tryz.info8 (by decide) w5.heap.size (.slice none 0 0) [] rfl (Row.nil _ _ _ _) (.slice ba (E - j) (c - j)) ((M.drop j).take ln) rfl (src_sl Tryz.und8 (HC.out (w5.drewN q2) HB.out.1 HB.out.2)) (by rw [List.length_take]; simp; omega) (Nat.le_refl _) ?_
          intro v6 w6 hr6 hg6
          have hb6 : Below w5.heap.size w5 w6 := below_via (below_drewN q2 (Below.refl _ _)) (hg6.below (B := w5.heap.size) (xs := []) (Row.nil _ _ _ _) (Nat.le_refl _)) (Nat.le_refl _)
          rw [List.nil_append] at hr6
          obtain ⟨a6, c6, hv6⟩ := hr6.ne
          obtain ⟨n6, hn6⟩ : ∃ n6, ((M.drop j).take ln).length = n6 := ⟨_, rfl⟩
          rw [hn6] at hv6
          subst hv6
          clear hn6 hg6 d3 d4 r0 r1
          have H6 : Hid (Upd w w6 g ∧ Blk 59 w6 w.heap.size [.int .i64 (dp : Int), .int .i64 cl, .int .i64 t, .bool false, .slice none 0 0] ∧ Blk 103 w6 (w.heap.size + 1) [.bool false, .int .i64 0] ∧ Rdb w6 g b off n c j q ∧ Row .u8 5 w5.heap.size w6 (.slice a6 n6 c6) ((M.drop j).take ln)) := ⟨H5.out.1.trans (Below.upd hb6), (Below.upd hb6 (g := g)).blk H5.out.2.1 (by omega), (Below.upd hb6 (g := g)).blk H5.out.2.2.1 (by omega), (Below.upd hb6 (g := w.heap.size)).blk H5.out.2.2.2 (by omega), hr6⟩
          have d4 : w6.cell? ⟨w.heap.size, 4, none⟩ = some (.slice none 0 0) := H6.out.2.1.cell 4
          have f4 := H6.out.2.1.frozen 4
          clear hr6 hb6
          go_upto_region 13 with (fail)
          refine wp_gen (fun W => Upd w W g ∧ Blk 59 W w.heap.size [.int .i64 (dp : Int), .int .i64 cl, .int .i64 t, .bool false, .slice a6 n6 c6] ∧ Blk 103 W (w.heap.size + 1) [.bool false, .int .i64 0] ∧ Rdb W g b off n c j q ∧ Row .u8 5 w5.heap.size W (.slice a6 n6 c6) ((M.drop j).take ln)) ?_ ?_
          · have hU := Upd.set w6 w.heap.size 4 (.slice a6 n6 c6)
            exact ⟨H6.out.1.more hU (Nat.le_refl _), H6.out.2.1.set 4 (.slice a6 n6 c6), hU.blk H6.out.2.2.1 (by omega), hU.blk H6.out.2.2.2.1 (by omega), H6.out.2.2.2.2.upd hU hsX⟩
          rintro w7 h7
          have H7 : Hid (Upd w w7 g ∧ Blk 59 w7 w.heap.size [.int .i64 (dp : Int), .int .i64 cl, .int .i64 t, .bool false, .slice a6 n6 c6] ∧ Blk 103 w7 (w.heap.size + 1) [.bool false, .int .i64 0] ∧ Rdb w7 g b off n c j q ∧ Row .u8 5 w5.heap.size w7 (.slice a6 n6 c6) ((M.drop j).take ln)) := h7
          clear h7 d4 f4
          have r1 : w7.cell? ⟨g, 1, none⟩ = some (.int .i64 j) := H7.out.2.2.2.1.cell 1
          have fr := H7.out.2.2.2.1.frozen 1
          go_upto_region 18 with (fail)
          refine wp_gen (fun W => Upd w W g ∧ Blk 59 W w.heap.size [.int .i64 (dp : Int), .int .i64 cl, .int .i64 t, .bool false, .slice a6 n6 c6] ∧ Blk 103 W (w.heap.size + 1) [.bool false, .int .i64 0] ∧ Rdb W g b off n c E q ∧ Row .u8 5 w5.heap.size W (.slice a6 n6 c6) ((M.drop j).take ln)) ?_ ?_
          · have hU := Upd.set w7 g 1 (.int .i64 (E : Int))
            exact ⟨H7.out.1.trans hU, hU.blk H7.out.2.1 (by omega), hU.blk H7.out.2.2.1 (by omega), H7.out.2.2.2.1.set 1 (.int .i64 (E : Int)), H7.out.2.2.2.2.upd hU hsg⟩
          rintro w8 h8
          have H8 : Hid (Upd w w8 g ∧ Blk 59 w8 w.heap.size [.int .i64 (dp : Int), .int .i64 cl, .int .i64 t, .bool false, .slice a6 n6 c6] ∧ Blk 103 w8 (w.heap.size + 1) [.bool false, .int .i64 0] ∧ Rdb w8 g b off n c E q ∧ Row .u8 5 w5.heap.size w8 (.slice a6 n6 c6) ((M.drop j).take ln)) := h8
          clear h8 r1 fr
          go_upto_region 18 with (fail)
          have hXd : Blk 59 w8.drew w.heap.size [.int .i64 (dp : Int), .int .i64 cl, .int .i64 t, .bool false, .slice a6 n6 c6] := H8.out.2.1
          have hPd : Blk 103 w8.drew (w.heap.size + 1) [.bool false, .int .i64 0] := H8.out.2.2.1
          have hUd : Upd w w8.drew g := H8.out.1.trans (upd_drewN _ 1 _)
          refine wp_region_still (fun k => ([.agg #[.int .i64 (dp : Int), .int .i64 cl, .int .i64 t, .bool false, .slice a6 n6 c6], .agg #[.bool false, .int .i64 0], undef, undef, .nilIface] : List Value).getD k undef) (fun W => Blk 59 W w.heap.size [.int .i64 (dp : Int), .int .i64 cl, .int .i64 t, .bool false, .slice a6 n6 c6] ∧ Blk 103 W (w.heap.size + 1) [.bool false, .int .i64 0] ∧ Upd w W g ∧ (Rdb W g b off n c E q ∧ Row .u8 5 w5.heap.size W (.slice a6 n6 c6) ((M.drop j).take ln))) rfl (by decide +kernel) (show dstB _ 100 = true by decide +kernel) ⟨hXd, hPd, hUd, H8.out.2.2.2⟩ (fun W hS => ?_) (fun i L W a hi hno hdep hv hn h0 hS => ?_)
          rotate_left
          · replace hi : i < 5 := hi
            obtain rfl | rfl | rfl | rfl | rfl : i = 0 ∨ i = 1 ∨ i = 2 ∨ i = 3 ∨ i = 4 := by omega
            · exact det_load rfl rfl rfl ((h0 6 (by decide +kernel)).trans rfl) hS.1.whole Tryz.underlying59 rfl Tryz.sizeE rfl hS
            · exact det_load rfl rfl rfl ((h0 7 (by decide +kernel)).trans rfl) hS.2.1.whole Tryz.underlying103 rfl Tryz.sizeP rfl hS
            · exact det_store (cells := #[.int .i64 (dp : Int), .int .i64 cl, .int .i64 t, .bool false, .slice a6 n6 c6]) rfl rfl rfl rfl ((h0 6 (by decide +kernel)).trans rfl) (hv 0 _ (show 0 < 5 by decide) (hdep 0 (by decide +kernel)) rfl) (hS.1.there 0 5 (Nat.le_refl 5)) Tryz.sizeE (oneA _ _ _ _ _ _ _) ⟨hS.1.fill [.int .i64 (dp : Int), .int .i64 cl, .int .i64 t, .bool false, .slice a6 n6 c6] rfl, (Upd.setCells _ _ _).blk hS.2.1 (by omega), hS.2.2.1.more (Upd.setCells _ _ _) (Nat.le_refl _), ⟨(Upd.setCells _ _ _).blk hS.2.2.2.1 (by omega), hS.2.2.2.2.upd (Upd.setCells _ _ _) hsX⟩⟩
            · exact det_store (cells := #[.bool false, .int .i64 0]) rfl rfl rfl rfl ((h0 7 (by decide +kernel)).trans rfl) (hv 1 _ (show 1 < 5 by decide) (hdep 1 (by decide +kernel)) rfl) (hS.2.1.there 0 2 (Nat.le_refl 2)) Tryz.sizeP (oneB _ _) ⟨(Upd.setCells _ _ _).blk hS.1 (by omega), hS.2.1.fill [.bool false, .int .i64 0] rfl, hS.2.2.1.more (Upd.setCells _ _ _) (Nat.le_succ _), ⟨(Upd.setCells _ _ _).blk hS.2.2.2.1 (by omega), hS.2.2.2.2.upd (Upd.setCells _ _ _) hsX1⟩⟩
            · exact det_val rfl rfl (run_asg rfl rfl) hS
          rw [frF5 rfl rfl rfl rfl rfl rfl]
          simp only [List.setIfInBounds_toArray, List.set_cons_succ, List.set_cons_zero, List.getD_cons_zero, List.getD_cons_succ]
          go_wp2
          refine bodyPost_ret (results_blk3 rfl rfl rfl hS.1 hS.2.1 Tryz.underlying59 rfl Tryz.sizeE Tryz.underlying103 rfl Tryz.sizeP rfl) rfl ⟨BelOut.good HPD.out.2.1 HPD.out.2.2 a6 n6 c6 false 0 rfl (by rw [if_neg (by decide), Int.toNat_natCast]; exact hS.2.2.2.2.mono (by omega)) (fun h => by cases h) (by rw [if_neg (by decide), Int.toNat_natCast, HE9.out.1]; exact hS.2.2.2.1), hS.2.2.1⟩
end Go.Proofs.YtefebamomdcaaaaGreatDoor
