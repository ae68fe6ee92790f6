/-
  Curves: the reference's triples (x / z, y / z) stand for points (pure).
-/
import Derived.Test.YtkdclocjijmgpaaK22
namespace Go.Proofs.Ytkdclocjijmgpaa.Gl
variable {p : Nat} [NeZero p] {c : Ec p}
/-- Three numbers that stand for a point, in the reference's way. -/
def Rq (t : Nat × Nat × Nat) : Pt p → Prop
  | none => t.2.2 = 0
  | some (x, y) => t.2.2 ≠ 0 ∧ F p t.1 = x * F p t.2.2 ∧ F p t.2.1 = y * F p t.2.2
theorem twice_ring {x y z a m : Fin p} (ha : a + 3 = 0) (hm : m * (y + y) = x * x + x * x + x * x + a) {X Y W0 W S YS B B2 B4 H HS Y2 Y4 S3 S6 : Fin p} (hX : X = x * z) (hY : Y = y * z) (hW0 : W0 = (X - z) * (X + z)) (hW : W = W0 + (W0 + W0)) (hS : S = Y * z) (hYS : YS = Y * S) (hB : B = X * YS) (hB2 : B2 = B + B) (hB4 : B4 = B2 + B2) (hH : H = W * W - (B4 + B4)) (hHS : HS = H * S) (hY2 : Y2 = YS * YS) (hY4 : Y4 = Y2 + Y2 + (Y2 + Y2)) (hS3 : S3 = S * (S * S)) (hS6 : S6 = S3 + S3 + (S3 + S3)) :
    HS + HS = (m * m - x - x) * (S6 + S6) ∧ W * (B4 - H) - (Y4 + Y4) = (m * (x - (m * m - x - x)) - y) * (S6 + S6) := by
  have hw : W = m * (S + S) := by
    subst hX hY hS hW0 hW
    have e : a = -3 := by grobner
    subst e
    have e2 : m * (y * z * z + y * z * z) = (m * (y + y)) * (z * z) := by grobner
    rw [e2, hm]
    grobner
  have hb : B = x * (S * S) := by subst hB hYS hX; rw [hS]; grobner
  have hy2 : Y2 = y * (S * S * S) := by subst hY2 hYS; rw [show S = Y * z from hS, hY]; grobner
  clear hm ha hW0 hW hX hY hYS hB hS
  subst hw hb hy2 hB2 hB4 hH hHS hY4 hS3 hS6
  constructor <;> grobner
theorem rtw_rq (hc : c.Ok) (ha : c.a + 3 = 0) {X Y Z : Nat} (l2 : Y < p) (l3 : Z < p) {P : Pt p} (hP : c.On P) (h : Rq (X, Y, Z) P) : Rq (rtw p X Y Z) (c.add P P) := by
  have h0 := p_pos (p := p)
  match P, hP, h with
  | none, _, h =>
    have h : Z = 0 := h
    subst h
    show (rtw p X Y 0).2.2 = 0
    unfold rtw
    rw [if_pos (.inl rfl)]
  | some (x, y), hP, h =>
    obtain ⟨hz, hX, hY⟩ := h
    simp only [] at hz hX hY
    have hzF : F p Z ≠ 0 := fun e => hz ((F_zero l3).1 e)
    by_cases hY0 : Y = 0
    · have hy : y = 0 := by
        subst hY0
        rw [F_0] at hY
        rcases hc.fd.dom _ _ hY.symm with e | e
        · exact e
        · exact absurd e hzF
      rw [add_opp ⟨rfl, by rw [hy]; grobner⟩]
      show (rtw p X Y Z).2.2 = 0
      unfold rtw
      rw [if_pos (.inr hY0)]
    · have hYF : F p Y ≠ 0 := fun e => hY0 ((F_zero l2).1 e)
      have hy0 : y ≠ 0 := fun e => hYF (by rw [hY, e]; clear hX hY; grobner)
      have hn : ¬ (x = x ∧ y + y = 0) := fun h => hy0 (hc.fd.half h.2)
      have hs := slope_ok hc hP hP hn
      rw [add_of hc hP hP hn hs]
      generalize c.slope x y x y = s at hs
      obtain ⟨_, hs⟩ := hs
      have key := twice_ring (z := F p Z) (X := F p X) (Y := F p Y) (W0 := _) (W := _) (S := _) (YS := _) (B := _) (B2 := _) (B4 := _) (H := _) (HS := _) (Y2 := _) (Y4 := _) (S3 := _) (S6 := _) ha hs hX hY rfl rfl rfl rfl rfl rfl rfl rfl rfl rfl rfl rfl rfl
      have hx : rtw p X Y Z = rtw p X Y Z := rfl
      conv at hx => rhs; unfold rtw
      rw [if_neg (fun h => h.elim hz hY0)] at hx
      simp only [] at hx
      rw [hx]
      have hS : F p Y * F p Z ≠ 0 := hc.fd.mulne hYF hzF
      refine ⟨?_, ?_, ?_⟩
      · intro e
        have e := (F_zero (p := p) (fad_lt h0)).2 e
        simp only [F_fad, F_fml] at e
        have h1 := hc.fd.half (hc.fd.half (hc.fd.half e))
        exact hc.fd.mulne hS (hc.fd.mulne hS hS) h1
      · have := key.1
        simp only [F_fsb _ (fad_lt h0), F_fsb _ l3, F_fml, F_fad]
        exact this
      · have := key.2
        simp only [F_fsb _ (fad_lt h0), F_fsb _ (fsb_lt h0), F_fsb _ l3, F_fml, F_fad]
        exact this
theorem sum_ring {x1 y1 x2 y2 z1 z2 m : Fin p} (hm : m * (x2 - x1) = y2 - y1) {U T A V V2 V3 R ZZ H : Fin p} (hU : U = y1 * z1 * z2) (hT : T = x1 * z1 * z2) (hA : A = y2 * z2 * z1 - U) (hV : V = x2 * z2 * z1 - T) (hV2 : V2 = V * V) (hV3 : V3 = V * V2) (hR : R = V2 * T) (hZZ : ZZ = z1 * z2) (hH : H = A * A * ZZ - V3 - (R + R)) :
    V * H = (m * m - x1 - x2) * (V3 * ZZ) ∧ A * (R - H) - V3 * U = (m * (x1 - (m * m - x1 - x2)) - y1) * (V3 * ZZ) := by
  have hu : U = y1 * ZZ := by rw [hU, hZZ]; grobner
  have ht : T = x1 * ZZ := by rw [hT, hZZ]; grobner
  have hv : V = (x2 - x1) * ZZ := by rw [hV, hT, hZZ]; grobner
  have ha : A = m * V := by
    rw [hv, hA, hU, hZZ]
    have e : m * ((x2 - x1) * (z1 * z2)) = m * (x2 - x1) * (z1 * z2) := by grobner
    rw [e, hm]
    grobner
  clear hU hT hA hV hZZ hm
  subst hV2 hV3 hR hH ha hu ht
  subst hv
  constructor <;> grobner
theorem rsm_rq (hc : c.Ok) (ha : c.a + 3 = 0) {X1 Y1 Z1 X2 Y2 Z2 : Nat} (l2 : Y1 < p) (l3 : Z1 < p) (m3 : Z2 < p) {P Q : Pt p} (hP : c.On P) (hQ : c.On Q) (h : Rq (X1, Y1, Z1) P) (g : Rq (X2, Y2, Z2) Q) : Rq (rsm p X1 Y1 Z1 X2 Y2 Z2) (c.add P Q) := by
  have h0 := p_pos (p := p)
  match P, Q, hP, hQ, h, g with
  | none, Q, _, _, h, g =>
    have h : Z1 = 0 := h
    unfold rsm
    rw [if_pos h]
    exact g
  | some (x1, y1), none, _, _, h, g =>
    have g : Z2 = 0 := g
    have h1 : Z1 ≠ 0 := h.1
    unfold rsm
    rw [if_neg h1, if_pos g]
    exact h
  | some (x1, y1), some (x2, y2), hP, hQ, h, g =>
    have hh := h
    obtain ⟨hz1, hX1, hY1⟩ := h
    obtain ⟨hz2, hX2, hY2⟩ := g
    simp only [] at hz1 hz2 hX1 hX2 hY1 hY2
    have n1 : F p Z1 ≠ 0 := fun e => hz1 ((F_zero l3).1 e)
    have n2 : F p Z2 ≠ 0 := fun e => hz2 ((F_zero m3).1 e)
    have hx : rsm p X1 Y1 Z1 X2 Y2 Z2 = rsm p X1 Y1 Z1 X2 Y2 Z2 := rfl
    conv at hx => rhs; unfold rsm
    rw [if_neg hz1, if_neg hz2] at hx
    simp only [] at hx
    generalize hU : fml p Y1 Z2 = U at hx
    generalize hT : fml p X1 Z2 = T at hx
    have lU : U < p := hU ▸ fml_lt h0
    have lT : T < p := hT ▸ fml_lt h0
    have eU : F p U = y1 * F p Z1 * F p Z2 := by rw [← hU, F_fml, hY1]
    have eT : F p T = x1 * F p Z1 * F p Z2 := by rw [← hT, F_fml, hX1]
    generalize hA : fsb p (fml p Y2 Z1) U = A at hx
    generalize hV : fsb p (fml p X2 Z1) T = V at hx
    have lA : A < p := hA ▸ fsb_lt h0
    have lV : V < p := hV ▸ fsb_lt h0
    have eA : F p A = y2 * F p Z2 * F p Z1 - F p U := by rw [← hA, F_fsb _ lU, F_fml, hY2]
    have eV : F p V = x2 * F p Z2 * F p Z1 - F p T := by rw [← hV, F_fsb _ lT, F_fml, hX2]
    clear hU hT hA hV hX1 hX2 hY1 hY2
    have dX : F p V = (x2 - x1) * (F p Z1 * F p Z2) := by
      rw [eV, eT]; clear eU eT eA eV; grobner
    have dY : F p A = (y2 - y1) * (F p Z1 * F p Z2) := by
      rw [eA, eU]; clear eU eT eA eV dX; grobner
    have nZ : F p Z1 * F p Z2 ≠ 0 := hc.fd.mulne n1 n2
    by_cases hdx : V = 0
    · have hxx : x1 = x2 := by
        have e := (F_zero lV).2 hdx
        rw [dX] at e
        rcases hc.fd.dom _ _ e with e | e
        · exact as7 e
        · exact absurd e nZ
      by_cases hdy : A = 0
      · have hyy : y1 = y2 := by
          have e := (F_zero lA).2 hdy
          rw [dY] at e
          rcases hc.fd.dom _ _ e with e | e
          · exact as7 e
          · exact absurd e nZ
        rw [hx, if_pos hdx, if_pos hdy]
        subst hxx hyy
        exact rtw_rq hc ha l2 l3 hP hh
      · rw [hx, if_pos hdx, if_neg hdy]
        have hy : y1 + y2 = 0 := by
          have hne : y2 - y1 ≠ 0 := fun e => hdy ((F_zero lA).1 (by rw [dY, e]; clear eU eT eA eV dX dY; grobner))
          have e : (y2 - y1) * (y1 + y2) = 0 := by
            have h1 : y1 * y1 = x1 * x1 * x1 + c.a * x1 + c.b := hP
            have h2 : y2 * y2 = x2 * x2 * x2 + c.a * x2 + c.b := hQ
            rw [← hxx] at h2
            clear eU eT eA eV dX dY
            grobner
          rcases hc.fd.dom _ _ e with e | e
          · exact absurd e hne
          · exact e
        rw [add_opp ⟨hxx, hy⟩]
        rfl
    · have hxx : x1 ≠ x2 := fun e => hdx ((F_zero lV).1 (by rw [dX, e]; clear eU eT eA eV dX dY; grobner))
      have hn : ¬ (x1 = x2 ∧ y1 + y2 = 0) := fun h => hxx h.1
      have hsl := slope_ok hc hP hQ hn
      rw [add_of hc hP hQ hn hsl, hx, if_neg hdx]
      generalize c.slope x1 y1 x2 y2 = s at hsl
      have key := sum_ring (z1 := F p Z1) (z2 := F p Z2) (U := F p U) (T := F p T) (A := F p A) (V := F p V) (V2 := _) (V3 := _) (R := _) (ZZ := _) (H := _) hsl.1 eU eT eA eV rfl rfl rfl rfl rfl
      have nV : F p V ≠ 0 := fun e => hdx ((F_zero lV).1 e)
      clear hx eU eT eA eV dX dY
      refine ⟨?_, ?_, ?_⟩
      · intro e
        have e := (F_zero (p := p) (fml_lt h0)).2 e
        simp only [F_fml] at e
        exact hc.fd.mulne (hc.fd.mulne nV (hc.fd.mulne nV nV)) nZ e
      · have := key.1
        simp only [F_fsb _ (fad_lt h0), F_fsb _ (fml_lt h0), F_fml, F_fad]
        exact this
      · have := key.2
        simp only [F_fsb _ (fad_lt h0), F_fsb _ (fml_lt h0), F_fsb _ (fsb_lt h0), F_fml, F_fad]
        exact this
end Go.Proofs.Ytkdclocjijmgpaa.Gl
/-
  Curves: the reference's limbs.
-/
namespace Go.Proofs.Ytkdclocjijmgpaa
open Go.RowKit
set_option maxRecDepth 20000
theorem RTrimL {w : World} (v : Value) (X : List Int) (hX : Sl .u32 w v X) (uX : U32s X) (hl : X.length ≤ 1000000) (x : Nat) (hx : val X = x) : Calls Try.prog 38 #[v] w fun e w' => ∃ a n c, e = .returned (.slice a n c) ∧ Nb w' (.slice a n c) x ∧ Below w.heap.size w w' :=
  (Nt.RTrim_any v X hX uX (by omega) _ rfl).mono fun e w' ⟨r, he, hr, hb⟩ => by
    have hr : Nb w' r (val X).toNat := hr
    rw [hx, Int.toNat_natCast] at hr
    obtain ⟨a, c, hf⟩ := hr.form
    subst hf
    exact ⟨_, _, _, he, hr, hb⟩
theorem sl_cutL {k : IntKind} {w : World} {v : Value} {X : List Int} (h : Sl k w v X) : ∃ a n c, v = .slice a n c := by obtain ⟨a, c, h1, _⟩ := h; exact ⟨a, _, c, h1⟩
theorem dg_take {x : Nat} (h : x < 4294967296 ^ 12) : val ((dg x).take 12) = x := by
  have hl := lim12 h
  unfold dg
  rw [List.take_append, List.take_of_length_le hl, List.take_replicate, val_pad, val_lim]
theorem limbs_ok {w : World} (x : Nat) (h : x < 4294967296 ^ 12) :
    Calls Try.prog 57 #[DV x] w fun e w' => ∃ a n c, e = .returned (.slice a n c) ∧ Nb w' (.slice a n c) x ∧ Below w.heap.size w w' := by
  obtain ⟨D, hD⟩ : ∃ D, dg x = D := ⟨_, rfl⟩
  have hd := dg_ok h
  have ht := dg_take h
  unfold DV
  rw [hD] at hd ht ⊢
  obtain ⟨hd1, hd2⟩ := hd.1
  have HD : Hid (U32s D ∧ D.length = 13 ∧ val (D.take 12) = x) := ⟨hd1, hd2, ht⟩
  clear hd ht hd1 hd2 hD h
  go_enter Try.func57, Try.ntmps57
  go_upto_region 2 with (refine wpList_boxR rfl 64 (.tmp 0) rfl (dgC D).toArray rfl ?_)
  refine wp_gen (fun W => Arr .u64 64 W w.heap.size D ∧ Below w.heap.size w W) ⟨(Blk.new 64 w (dgC D)).arr (xs := D), al1 _⟩ ?_
  rintro W2 hW
  have H2 : Hid (Arr .u64 64 W2 w.heap.size D ∧ Below w.heap.size w W2) := hW
  clear hW
  go_wp2
  go_loopw [3, 4] (fun o i wr => ∃ j : Nat, j ≤ 12 ∧ i = .int .i64 j ∧ Hid (Row .u32 45 (w.heap.size + 1) wr o (D.take j)) ∧ Hid (Arr .u64 64 wr w.heap.size D ∧ Below w.heap.size w wr)) (fun _ i _ => 12 - (intOf i).toNat)
  case atStart => exact ⟨0, by omega, rfl, Row.nil _ _ _ _, H2⟩
  case round =>
    clear H2
    obtain ⟨j, hj, rfl, Hrow, HW⟩ := hrel
    by_cases hlt : j < 12
    · obtain ⟨y, hy⟩ : ∃ y, D.getD j 0 = y := ⟨_, rfl⟩
      have uy : U32 y := hy ▸ HD.out.1.at j
      obtain ⟨uy1, uy2⟩ := uy
      have hcy := HW.out.1.cell j (by rw [HD.out.2.1]; omega)
      rw [hy] at hcy
      have hsz : w.heap.size < wr.heap.size := HW.out.1.lt
      have hsn : Hid (D.take (j + 1) = D.take j ++ [y]) := by
        show _ = _
        have hl : j < D.length := by rw [HD.out.2.1]; omega
        rw [List.take_succ_eq_append_getElem hl, ← hy]
        simp [List.getD_eq_getElem?_getD, List.getElem?_eq_getElem hl]
      have HL : Hid ((D.take j).length ≤ 12) := by show _ ≤ _; simp; omega
      clear hy
      go_wp2_with (at_builtin; refine wpList_ap rfl (.tmp 9) (.tmp 14) 22 22 rfl .u32 45 4 Nt.Try.und32 Nt.Try.info32 (by decide) (w.heap.size + 1) _ (D.take j) (by rfl) (Hrow.out.alloc _) _ [y] (by rfl) (src_sl Nt.Try.und32 (Arr.sl (S := [y]) (arr_newB rfl))) (by have := HL.out; simp only [List.length_singleton]; omega) (by simp; omega) ?_; intro v1 w1 hr1 hg1; have hB1 := hg1.below (Hrow.out.alloc _) (by simp; omega))
      go_roundw
      case rel =>
        refine ⟨j + 1, by omega, by go_num, ?_, ?_, ?_⟩
        · show Row _ _ _ _ _ _
          rw [hsn.out]
          exact hr1
        · exact below_arr hB1 (by omega) (below_arr (al1 _) HW.out.1.lt HW.out.1)
        · exact (Nt.al HW.out.2).trans (hB1.mono (by omega))
      case measure => simp [intOf]; omega
    · have e : j = 12 := by omega
      subst e
      have hs := Hrow.out.sl
      obtain ⟨a', n', c', hv⟩ := sl_cutL hs
      subst hv
      have HT := RTrimL _ _ hs (fun y hy => HD.out.1 y (List.mem_of_mem_take hy)) (by simp; omega) x HD.out.2.2
      clear hs hlt Hrow
      go_wp2_with (go_at_call 38; refine HT.mono ?_; rintro e w' ⟨a, n, c, rfl, hn, hb⟩)
      go_ret
      exact ⟨_, _, _, rfl, hn, HW.out.2.trans (hb.mono HW.out.2.size)⟩
end Go.Proofs.Ytkdclocjijmgpaa
/-
  Curves: the reference's lift.
-/
namespace Go.Proofs.Ytkdclocjijmgpaa
open Go.RowKit
set_option maxRecDepth 20000
/-- A call whose answer is told by what holds of it. -/
theorem det_callx {P : Program} {ops : Array Oper} {Q : Exit → Act → World → Prop} {β : Type} {V : β → Nat → Value} {S : β → Array Bool → World → Prop} {i : Nat} {b : β} {L : Array Bool} {a : Act} {W : World} {o : Oper} (ho : ops[i]? = some o) (hg : o.guard = none) {f : FuncId} {vs : Array Value} (hr : (execOp a.eval o).run P W = .ok (.enter f vs) W) {R : Value → World → Prop} (hc : Calls P f vs W fun e w' => ∃ v, e = .returned v ∧ R v w') (hS : ∀ v w', R v w' → ∃ b', (∀ k, k ≠ i → V b' k = V b k) ∧ V b' i = v ∧ S b' (L.setIfInBounds i true) w') : DetOp P ops Q V S i b L a W :=
  det_op ho hg (by
    unfold Oper.wp
    rw [hr]
    refine hc.mono ?_
    rintro e w' ⟨v, rfl, h⟩
    obtain ⟨b', h1, h2, h3⟩ := hS v w' h
    exact ⟨b', fun k hk _ => h1 k hk, by rw [h2]; exact put_dst ho, h3⟩)
theorem run_call1 {a : Act} {W : World} {o : Oper} {f : FuncId} {t1 : Tmp} {tys : Array TypeId} (hop : o.op = .call { callee := .value (.func f), args := #[.tmp t1], argTypes := tys }) {v1 : Value} (e1 : a.eval (.tmp t1) = v1)
    (eg : ∀ (args : Array Value) (w : World), (callFunc f args).run Try.prog w = .ok (.enter f args) w) : (execOp a.eval o).run Try.prog W = .ok (.enter f #[v1]) W := by
  have e0 : a.eval (.func f) = .func (.func f) #[] #[] := rfl
  subst e1
  unfold execOp
  simp only [hop, resolve, e0]
  simp [go_sem, Deferred.ofValue, invoke, eg]
theorem eg_trim (args : Array Value) (w : World) : (callFunc 38 args).run Try.prog w = .ok (.enter 38 args) w := eg_of Try.func38 (by kernel_rfl) (by kernel_rfl) args w
theorem eg_ofd (args : Array Value) (w : World) : (callFunc 55 args).run Try.prog w = .ok (.enter 55 args) w := eg_of Try.func55 (by kernel_rfl) (by kernel_rfl) args w
theorem eg_limbs (args : Array Value) (w : World) : (callFunc 57 args).run Try.prog w = .ok (.enter 57 args) w := eg_of Try.func57 (by kernel_rfl) (by kernel_rfl) args w
theorem run_fieldP {a : Act} {W : World} {o : Oper} {t k : Nat} (hop : o.op = .fieldAddr 24 (.tmp t) k) {bl : Nat} (hx : a.eval (.tmp t) = .pointer (some ⟨bl, 0, none⟩)) (hk : k < 2) : (execOp a.eval o).run Try.prog W = .ok (.value (.pointer (some ⟨bl, k, none⟩))) W := by
  unfold execOp
  simp only [hop, hx]
  match k, hk with
  | 0, _ => simp [go_sem, Instr.fieldAt]
  | 1, _ => simp [go_sem, Instr.fieldAt]
theorem run_load1 {a : Act} {W : World} {o : Oper} {t : Tmp} (hop : o.op = .load 22 (.tmp t)) {bl off : Nat} (hx : a.eval (.tmp t) = .pointer (some ⟨bl, off, none⟩)) {v : Value} (hc : W.cell? ⟨bl, off, none⟩ = some v) : (execOp a.eval o).run Try.prog W = .ok (.value v) W := by
  unfold execOp
  simp only [hop, hx]
  simp [go_sem, hc]
theorem run_one {a : Act} {W : World} {o : Oper} (hop : o.op = .build 64 #[(0, .const (.int .u64 1))]) : (execOp a.eval o).run Try.prog W = .ok (.value (DV 1)) W := by
  have e0 : DV 1 = .agg #[.int .u64 1, .int .u64 0, .int .u64 0, .int .u64 0, .int .u64 0, .int .u64 0, .int .u64 0, .int .u64 0, .int .u64 0, .int .u64 0, .int .u64 0, .int .u64 0, .int .u64 0] := by
    have h : lim 1 = [1] := by decide +kernel
    unfold DV dg
    rw [h]
    rfl
  rw [e0]
  unfold execOp
  simp only [hop]
  have e4 : (#[(0, Operand.const (.int .u64 1))] : Array (Nat × Operand)).map (fun q => (q.1, a.eval q.2)) = #[(0, .int .u64 1)] := by simp [Act.eval]
  rw [e4]
  have e : ∀ W : World, Sem.run Try.prog (do pure (Next.value (← Instr.build 64 #[(0, .int .u64 1)]))) W = .ok (.value (.agg #[.int .u64 1, .int .u64 0, .int .u64 0, .int .u64 0, .int .u64 0, .int .u64 0, .int .u64 0, .int .u64 0, .int .u64 0, .int .u64 0, .int .u64 0, .int .u64 0, .int .u64 0])) W := fun W => by kernel_rfl
  exact e W
theorem ofN {w : World} (v : Value) (x : Nat) (hv : Nb w v x) (h : x < 4294967296 ^ 12) : Calls Try.prog 55 #[v] w fun e w' => e = .returned (DV x) ∧ Below w.heap.size w w' := by
  have hl := lim12 h
  refine (rof_any v (lim x) hv.sl (lim_u32 x) (by omega)).mono ?_
  rintro e w' ⟨Z, rfl, hZ, hz, hb⟩
  rw [List.take_of_length_le hl, val_lim] at hz
  rw [dg_eq hZ hz h]
  exact ⟨rfl, hb⟩
/-- What the reference lifts a point to. -/
def lft (X Y : List Int) : Nat × Nat × Nat := if farB X Y = true then (0, 0, 0) else ((val X).toNat, (val Y).toNat, 1)
/-- A block filled last, two numbers taken on the way. -/
def SL (w0 : World) (T : TypeId) (bs : Nat) (old new : List Value) (iS n i1 i2 x y : Nat) (b : Value × Value) (L : Array Bool) (W : World) : Prop :=
  SB w0 T bs old new iS n () L W ∧ (¬ Up L iS → (Up L i1 → Nb W b.1 x) ∧ (Up L i2 → Nb W b.2 y))
theorem up_same {L : Array Bool} {i : Nat} (h : i < L.size) : Up (L.setIfInBounds i true) i := by unfold Up; simp [Array.getD_eq_getD_getElem?, h]
theorem SL.keep {w0 : World} {T : TypeId} {bs : Nat} {old new : List Value} {iS n i1 i2 x y : Nat} {b : Value × Value} {L : Array Bool} {W W' : World} (h : SL w0 T bs old new iS n i1 i2 x y b L W) {i : Nat} (hi : i < n) (hno : ¬ Up L i) (hS : i ≠ iS) (h1 : i ≠ i1) (h2 : i ≠ i2) (hb : Below W.heap.size W W') : SL w0 T bs old new iS n i1 i2 x y b (L.setIfInBounds i true) W' :=
  ⟨h.1.keep hi hno hS hb, fun u => ⟨fun v => ((h.2 fun z => u ((up_st hS).2 z)).1 ((up_st h1).1 v)).below hb, fun v => ((h.2 fun z => u ((up_st hS).2 z)).2 ((up_st h2).1 v)).below hb⟩⟩
theorem SL.put1 {w0 : World} {T : TypeId} {bs : Nat} {old new : List Value} {iS n i1 i2 x y : Nat} {b : Value × Value} {L : Array Bool} {W W' : World} (h : SL w0 T bs old new iS n i1 i2 x y b L W) (hi : i1 < n) (hno : ¬ Up L i1) (hS : i1 ≠ iS) (h2 : i1 ≠ i2) (hb : Below W.heap.size W W') {v : Value} (hv : Nb W' v x) : SL w0 T bs old new iS n i1 i2 x y (v, b.2) (L.setIfInBounds i1 true) W' :=
  ⟨h.1.keep hi hno hS hb, fun u => ⟨fun _ => hv, fun v => ((h.2 fun z => u ((up_st hS).2 z)).2 ((up_st h2).1 v)).below hb⟩⟩
theorem SL.put2 {w0 : World} {T : TypeId} {bs : Nat} {old new : List Value} {iS n i1 i2 x y : Nat} {b : Value × Value} {L : Array Bool} {W W' : World} (h : SL w0 T bs old new iS n i1 i2 x y b L W) (hi : i2 < n) (hno : ¬ Up L i2) (hS : i2 ≠ iS) (h1 : i2 ≠ i1) (hb : Below W.heap.size W W') {v : Value} (hv : Nb W' v y) : SL w0 T bs old new iS n i1 i2 x y (b.1, v) (L.setIfInBounds i2 true) W' :=
  ⟨h.1.keep hi hno hS hb, fun u => ⟨fun v => ((h.2 fun z => u ((up_st hS).2 z)).1 ((up_st h1).1 v)).below hb, fun _ => hv⟩⟩
set_option maxHeartbeats 4000000 in
theorem lift_any {w : World} {p : Nat} (hp : Fp p) (vx vy : Value) (X Y : List Int) (hX : Sl .u32 w vx X) (hY : Sl .u32 w vy Y) (uX : U32s X) (uY : U32s Y) (lX : X.length ≤ 1000000) (lY : Y.length ≤ 1000000) (bX : (val X).toNat < p) (bY : (val Y).toNat < p) :
    Calls Try.prog 32 #[.agg #[vx, vy]] w fun e w' => e = .returned (.agg (tC (lft X Y).1 (lft X Y).2.1 (lft X Y).2.2).toArray) ∧ Below w.heap.size w w' := by
  have HF : Hid (∀ W, Below w.heap.size w W → Calls Try.prog 35 #[.agg #[vx, vy]] W fun e w' => e = .returned (.bool (farB X Y)) ∧ Below W.heap.size W w') := fun W h => RFar _ _ X Y (below_sl h hX) (below_sl h hY) uX uY lX lY
  have vX : val X = ((val X).toNat : Int) := by have := val_nonneg uX; omega
  have vY : val Y = ((val Y).toNat : Int) := by have := val_nonneg uY; omega
  have HX : Hid (∀ W, Below w.heap.size w W → Calls Try.prog 38 #[vx] W fun e w' => ∃ v, e = .returned v ∧ (Nb w' v (val X).toNat ∧ Below W.heap.size W w')) := fun W h => (RTrimL _ X (below_sl h hX) uX lX _ vX).mono fun e w' ⟨a, n, c, h1, h2, h3⟩ => ⟨_, h1, h2, h3⟩
  have HY : Hid (∀ W, Below w.heap.size w W → Calls Try.prog 38 #[vy] W fun e w' => ∃ v, e = .returned v ∧ (Nb w' v (val Y).toNat ∧ Below W.heap.size W w')) := fun W h => (RTrimL _ Y (below_sl h hY) uY lY _ vY).mono fun e w' ⟨a, n, c, h1, h2, h3⟩ => ⟨_, h1, h2, h3⟩
  obtain ⟨R, hR⟩ : ∃ R, lft X Y = R := ⟨_, rfl⟩
  rw [hR]
  have HR : Hid ((farB X Y = true → R = (0, 0, 0)) ∧ (farB X Y = false → R = ((val X).toNat, (val Y).toNat, 1))) := ⟨fun h => by rw [← hR]; unfold lft; rw [h]; rfl, fun h => by rw [← hR]; unfold lft; rw [h]; rfl⟩
  obtain ⟨x, hx⟩ : ∃ x, (val X).toNat = x := ⟨_, rfl⟩
  obtain ⟨y, hy⟩ : ∃ y, (val Y).toNat = y := ⟨_, rfl⟩
  obtain ⟨q, hq⟩ : ∃ q, farB X Y = q := ⟨_, rfl⟩
  rw [hx] at HX HR bX
  rw [hy] at HY HR bY
  rw [hq] at HF HR
  have HP : Hid (Fp p ∧ x < p ∧ y < p ∧ 1 < p ∧ 0 < p) := ⟨hp, bX, bY, hp.1, by have := hp.1; omega⟩
  clear hp hX hY uX uY lX lY bX bY vX vY hR hx hy hq
  go_enter Try.func32, Try.ntmps32
  go_upto_region 1 with (refine wpList_boxR rfl 24 (.tmp 0) rfl #[vx, vy] rfl ?_)
  refine wp_gen (fun W => Below w.heap.size w W ∧ Blk 24 W w.heap.size [vx, vy] ∧ Blk 70 W (w.heap.size + 1) (z13 ++ (z13 ++ z13))) ?_ ?_
  · have x2 := Blk.new 70 (w.alloc (.cells #[vx, vy] 24)) (z13 ++ (z13 ++ z13))
    rw [World.size_alloc] at x2
    exact ⟨below_via (al1 _) (al1 _) (Nat.le_refl _), below_blk (al1 _) (by simp only [World.size_alloc]; omega) (Blk.new _ _ _), x2⟩
  rintro W1 hW
  have M1 : Hid (Below w.heap.size w W1 ∧ Blk 24 W1 w.heap.size [vx, vy] ∧ Blk 70 W1 (w.heap.size + 1) (z13 ++ (z13 ++ z13))) := hW
  clear hW
  have HC : Hid (W1.rangeAt w.heap.size 0 [vx, vy]) := M1.out.2.1.whole
  have HSZ : Hid ((Try.prog.info? 24).map (·.size) = some ([vx, vy] : List Value).length) := by show (Try.prog.info? 24).map (·.size) = some 2; kernel_rfl
  go_wp2_with (refine wpList_load_mid rfl _ _ rfl w.heap.size 0 rfl [vx, vy] _ HC.out Try.underlying24 rfl HSZ.out ?_)
  refine (HF.out _ M1.out.1).mono ?_
  rintro e w2 ⟨rfl, hb⟩
  have M2 : Hid (Below w.heap.size w w2 ∧ Blk 24 w2 w.heap.size [vx, vy] ∧ Blk 70 w2 (w.heap.size + 1) (z13 ++ (z13 ++ z13))) := ⟨below_via M1.out.1 hb (Nat.le_refl _), below_blk hb M1.out.2.1.lt M1.out.2.1, below_blk hb M1.out.2.2.lt M1.out.2.2⟩
  clear hb M1 HC HSZ HF
  cases q with
  | true =>
    have HR0 : Hid (R = (0, 0, 0)) := HR.out.1 rfl
    have Hth : Hid (w2.there (w.heap.size + 1) 0 (tC 0 0 0).toArray.size) := M2.out.2.2.there 0 _ (by rw [List.size_toArray, tC_len HP.out.1 HP.out.2.2.2.2 HP.out.2.2.2.2 HP.out.2.2.2.2]; decide)
    go_wp2_with (refine wpList_store_mid rfl _ _ _ rfl (w.heap.size + 1) 0 (tC 0 0 0).toArray rfl (by rw [tC0]; rfl) Hth.out (szT HP.out.1 HP.out.2.2.2.2 HP.out.2.2.2.2 HP.out.2.2.2.2) (tC_one _ _ _) ?_)
    have hU : Upd w2 (w2.setCells (w.heap.size + 1) 0 (tC 0 0 0)) (w.heap.size + 1) := Upd.setCells _ 0 w2
    have hF := M2.out.2.2.fill (tC 0 0 0) (by rw [tC_len HP.out.1 HP.out.2.2.2.2 HP.out.2.2.2.2 HP.out.2.2.2.2]; rfl)
    refine bodyPost_ret (v := .agg (tC 0 0 0).toArray) (results_blk (b := w.heap.size + 1) rfl rfl hF Try.underlying70 rfl (szT HP.out.1 HP.out.2.2.2.2 HP.out.2.2.2.2 HP.out.2.2.2.2)) rfl ⟨?_, hU.below M2.out.1 M2.out.1.size (by omega)⟩
    rw [HR0.out]
  | false =>
  have HR0 : Hid (R = (x, y, 1)) := HR.out.2 rfl
  go_upto_region 3 with (fail)
  refine wp_frame (fun A0 => A0.tmps.size = 16 ∧ A0.defers = [] ∧ A0.eval (.tmp 1) = .pointer (some ⟨w.heap.size, 0, none⟩) ∧ A0.eval (.tmp 2) = .pointer (some ⟨w.heap.size + 1, 0, none⟩)) ⟨by kernel_rfl, rfl, rfl, rfl⟩ ?_
  rintro A0 hA0
  have AF0 : Hid (A0.tmps.size = 16 ∧ A0.defers = [] ∧ A0.eval (.tmp 1) = .pointer (some ⟨w.heap.size, 0, none⟩) ∧ A0.eval (.tmp 2) = .pointer (some ⟨w.heap.size + 1, 0, none⟩)) := hA0
  clear hA0
  refine wp_region_o (β := Value × Value) (fun (b : Value × Value) k => if k = 2 then b.1 else if k = 6 then b.2 else ([.pointer (some ⟨w.heap.size, 0, none⟩), vx, undef, DV x, .pointer (some ⟨w.heap.size, 1, none⟩), vy, undef, DV y, DV 1, .agg (tC x y 1).toArray, undef] : List Value).getD k undef) (SL w2 70 (w.heap.size + 1) (z13 ++ (z13 ++ z13)) (tC x y 1) 10 11 2 6 x y) (undef, undef) true (m := 16) AF0.out.1 rfl (by decide +kernel) (by decide +kernel) ⟨⟨updDrew _ _, M2.out.2.2.lt, fun _ => ⟨Below.drew (Below.refl _ _), below_blk (Below.drew (Below.refl _ _)) M2.out.2.2.lt M2.out.2.2⟩, fun u => absurd u not_up_new⟩, fun _ => ⟨fun u => absurd u not_up_new, fun u => absurd u not_up_new⟩⟩ (fun i b L W a hi hno hlt hdep hv h0 hS => ?_) (fun b L W a hup hS hsz hdf hv h0 => ?_)
  · replace hi : i < 11 := hi
    have hB2 : i ≠ 10 → Below w2.heap.size w2 W ∧ Blk 24 W w.heap.size [vx, vy] := fun hne => by
      have := (hS.1.not hi hno).1
      exact ⟨this, below_blk this M2.out.2.1.lt M2.out.2.1⟩
    obtain rfl | rfl | rfl | rfl | rfl | rfl | rfl | rfl | rfl | rfl | rfl : i = 0 ∨ i = 1 ∨ i = 2 ∨ i = 3 ∨ i = 4 ∨ i = 5 ∨ i = 6 ∨ i = 7 ∨ i = 8 ∨ i = 9 ∨ i = 10 := by omega
    · exact det_val rfl rfl (run_fieldP (k := 0) rfl ((h0 1 (by decide +kernel)).trans AF0.out.2.2.1) (by decide)) (hS.keep (by decide) hno (by decide) (by decide) (by decide) (Below.refl _ _))
    · exact det_val rfl rfl (run_load1 rfl (hv 0 6 (by decide) (hdep 0 (by decide +kernel)) rfl) ((hB2 (by decide)).2.cell 0)) (hS.keep (by decide) hno (by decide) (by decide) (by decide) (Below.refl _ _))
    · exact det_callx rfl rfl (run_call1 rfl (hv 1 7 (by decide) (hdep 1 (by decide +kernel)) rfl) eg_trim) (HX.out W (below_via M2.out.1 (hB2 (by decide)).1 (Nat.le_refl _))) (fun v w' h => ⟨(v, b.2), fun k hk => by simp only [if_neg hk], rfl, hS.put1 (by decide) hno (by decide) (by decide) h.2 h.1⟩)
    · exact det_call rfl rfl (run_call1 rfl (hv 2 8 (by decide) (hdep 2 (by decide +kernel)) rfl) eg_ofd) (ofN _ x ((hS.2 fun u => hno ((hS.1.2.2.2 u).2 3 (by decide))).1 (hdep 2 (by decide +kernel))) (HP.out.1.lt HP.out.2.1)) (fun w1 hb => hS.keep (by decide) hno (by decide) (by decide) (by decide) hb)
    · exact det_val rfl rfl (run_fieldP (k := 1) rfl ((h0 1 (by decide +kernel)).trans AF0.out.2.2.1) (by decide)) (hS.keep (by decide) hno (by decide) (by decide) (by decide) (Below.refl _ _))
    · exact det_val rfl rfl (run_load1 rfl (hv 4 10 (by decide) (hdep 4 (by decide +kernel)) rfl) ((hB2 (by decide)).2.cell 1)) (hS.keep (by decide) hno (by decide) (by decide) (by decide) (Below.refl _ _))
    · exact det_callx rfl rfl (run_call1 rfl (hv 5 11 (by decide) (hdep 5 (by decide +kernel)) rfl) eg_trim) (HY.out W (below_via M2.out.1 (hB2 (by decide)).1 (Nat.le_refl _))) (fun v w' h => ⟨(b.1, v), fun k hk => by simp only [if_neg hk], rfl, hS.put2 (by decide) hno (by decide) (by decide) h.2 h.1⟩)
    · exact det_call rfl rfl (run_call1 rfl (hv 6 12 (by decide) (hdep 6 (by decide +kernel)) rfl) eg_ofd) (ofN _ y ((hS.2 fun u => hno ((hS.1.2.2.2 u).2 7 (by decide))).2 (hdep 6 (by decide +kernel))) (HP.out.1.lt HP.out.2.2.1)) (fun w1 hb => hS.keep (by decide) hno (by decide) (by decide) (by decide) hb)
    · exact det_val rfl rfl (run_one rfl) (hS.keep (by decide) hno (by decide) (by decide) (by decide) (Below.refl _ _))
    · exact det_val rfl rfl (run_build rfl (hv 3 9 (by decide) (hdep 3 (by decide +kernel)) rfl) (hv 7 13 (by decide) (hdep 7 (by decide +kernel)) rfl) (hv 8 14 (by decide) (hdep 8 (by decide +kernel)) rfl) (dg_ok (Fp.lt HP.out.1 HP.out.2.1)).1.2 (dg_ok (Fp.lt HP.out.1 HP.out.2.2.1)).1.2 (dg_ok (Fp.lt HP.out.1 HP.out.2.2.2.1)).1.2) (hS.keep (by decide) hno (by decide) (by decide) (by decide) (Below.refl _ _))
    · exact det_store rfl rfl rfl rfl ((h0 2 (by decide +kernel)).trans AF0.out.2.2.2) (hv 9 15 (by decide) (hdep 9 (by decide +kernel)) rfl) ((hS.1.2.2.1 hno).2.there 0 _ (by rw [List.size_toArray, tC_len HP.out.1 HP.out.2.1 HP.out.2.2.1 HP.out.2.2.2.1]; decide)) (szT HP.out.1 HP.out.2.1 HP.out.2.2.1 HP.out.2.2.2.1) (tC_one _ _ _) ⟨hS.1.store hno (hlt 10 (by decide)) (fun k hk hne => hdep k (allDep hk hne (by decide +kernel))) (by rw [tC_len HP.out.1 HP.out.2.1 HP.out.2.2.1 HP.out.2.2.2.1, z39_len]), fun u => absurd (up_same (hlt 10 (by decide))) u⟩
  have hB := (hS.1.2.2.2 (hup 10 (by decide))).1
  have hU := hS.1.1
  have hE := (h0 2 (by decide +kernel)).trans AF0.out.2.2.2
  have hD := hdf.trans AF0.out.2.1
  clear hup hS hsz hdf hv h0
  go_wp2
  refine bodyPost_ret (v := .agg (tC x y 1).toArray) (results_blk (b := w.heap.size + 1) rfl hE hB Try.underlying70 rfl (szTl HP.out.1 HP.out.2.1 HP.out.2.2.1 HP.out.2.2.2.1)) hD ⟨?_, hU.below M2.out.1 M2.out.1.size (by omega)⟩
  rw [HR0.out]
end Go.Proofs.Ytkdclocjijmgpaa
/-
  The arithmetic of the reference's long division: a guess by the highest digits is never too small.
-/
namespace Go.Proofs.Ytkdclocjijmgpaa.D

theorem drop_step (A : List Int) (k : Nat) (h : k < A.length) : val (A.drop k) = A.getD k 0 + 65536 * val (A.drop (k + 1)) := by
  rw [List.drop_eq_getElem_cons h]; simp only [val]; simp [List.getD, List.getElem?_eq_getElem h]
theorem top3 {L : List Int} (u : U16s L) (m : Nat) (h : L.length ≤ m + 3) :
    ∃ lo, 0 ≤ lo ∧ lo < 65536 ^ m ∧ val L = lo + 65536 ^ m * ((L.getD (m + 2) 0 * 65536 + L.getD (m + 1) 0) * 65536 + L.getD m 0) := by
  refine ⟨val (L.take m), val_nonneg (u.take m), ?_, ?_⟩
  · exact Int.lt_of_lt_of_le (val_lt (u.take m)) (pow_mono (by simp; omega))
  · have h1 : val L = val (L.take (m + 3)) := by rw [List.take_of_length_le h]
    rw [h1, val_take_succ, val_take_succ, val_take_succ, pow_succ16, pow_succ16]
    grind
theorem top2 {L : List Int} (u : U16s L) (m : Nat) (h : L.length ≤ m + 2) :
    ∃ lo, 0 ≤ lo ∧ lo < 65536 ^ m ∧ val L = lo + 65536 ^ m * (L.getD (m + 1) 0 * 65536 + L.getD m 0) := by
  refine ⟨val (L.take m), val_nonneg (u.take m), ?_, ?_⟩
  · exact Int.lt_of_lt_of_le (val_lt (u.take m)) (pow_mono (by simp; omega))
  · have h1 : val L = val (L.take (m + 2)) := by rw [List.take_of_length_le h]
    rw [h1, val_take_succ, val_take_succ, pow_succ16]
    grind
/-- The guess by the highest digits: the true digit is not above it. -/
theorem guess_ge {R M P high top lo lo' : Int} (hP : 0 < P) (h0 : lo < P) (h0' : 0 ≤ lo') (hR : R = lo + P * high) (hM : M = lo' + P * top) (ht : 0 < top) (hh : 0 ≤ high) : R < (high / top + 1) * M := by
  have h1 : high < (high / top + 1) * top := by
    have := Int.mul_ediv_add_emod high top; have := Int.emod_lt_of_pos high ht
    rw [Int.add_mul, Int.mul_comm (high / top) top]; omega
  have hq : 0 ≤ high / top := Int.ediv_nonneg hh (by omega)
  have h2 : R < P * (high + 1) := by rw [hR, Int.mul_add]; omega
  have h3 : P * (high + 1) ≤ P * ((high / top + 1) * top) := Int.mul_le_mul_of_nonneg_left (by omega) (by omega)
  have h4 : P * ((high / top + 1) * top) ≤ (high / top + 1) * M := by
    rw [hM, Int.mul_add, ← Int.mul_assoc P, Int.mul_comm P, Int.mul_assoc]
    have : 0 ≤ (high / top + 1) * lo' := Int.mul_nonneg (by omega) h0'
    omega
  omega
/-- One digit more. -/
theorem div_step {hi M a R g : Int} (hM : 0 < M) (hR : hi % M = R) (h1 : g * M ≤ a + 65536 * R) (h2 : a + 65536 * R < (g + 1) * M) :
    (a + 65536 * hi) / M = g + 65536 * (hi / M) ∧ (a + 65536 * hi) % M = a + 65536 * R - g * M := by
  have h3 := Int.mul_ediv_add_emod hi M
  rw [hR] at h3
  have e : a + 65536 * hi = (a + 65536 * R - g * M) + M * (g + 65536 * (hi / M)) := by
    rw [← h3]
    have : (M * (hi / M) + R) / M = hi / M := by rw [h3]
    rw [this]; grind
  have h4 : 0 ≤ a + 65536 * R - g * M := by omega
  have h5 : a + 65536 * R - g * M < M := by rw [Int.add_mul] at h2; omega
  constructor
  · rw [e, Int.add_mul_ediv_left _ _ (by omega), Int.ediv_eq_zero_of_lt h4 h5]; omega
  · rw [e, Int.add_mul_emod_self_left, Int.emod_eq_of_lt h4 h5]
theorem drop_set {S : List Int} {k : Nat} (x : Int) (h : k < S.length) : val ((S.set k x).drop k) = x + 65536 * val (S.drop (k + 1)) := by
  rw [drop_step _ k (by simpa using h)]
  congr 1
  · simp [List.getD, h]
  · rw [List.drop_set_of_lt (by omega)]
end Go.Proofs.Ytkdclocjijmgpaa.D
