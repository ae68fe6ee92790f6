/-
  Policy: Run.
-/
import Derived.BigQuiet
import Derived.Test.YtkjdihikcgpababDoorK13
namespace Go.Proofs.YtkjdihikcgpababDoor
open Go.RowKit Go.Sort Go.Lib
section
variable {P : Program} {a : Act} {W : World} {o : Oper} {x y z : Operand} {vx vy vz : Value}
theorem run_cl3 {f : FuncId} {tys : Array TypeId} (hop : o.op = .call { callee := .value (.func f), args := #[x, y, z], argTypes := tys }) (hx : a.eval x = vx) (hy : a.eval y = vy) (hz : a.eval z = vz) (he : ∀ args w, (callFunc f args).run P w = .ok (.enter f args) w) : (execOp a.eval o).run P W = .ok (.enter f #[vx, vy, vz]) W := by
  unfold execOp
  simp only [hop, resolve, invoke, Sem.run_bind, List.map_toArray, List.map_cons, List.map_nil, hx, hy, hz]
  exact he _ _
theorem run_ex {k : Nat} {vs : Array Value} {v : Value} (hop : o.op = .extract x k) (hx : a.eval x = .tuple vs) (hv : vs[k]? = some v) : (execOp a.eval o).run P W = .ok (.value v) W := by
  unfold execOp
  simp [hop, hx, Instr.extract, hv]
end
/-- The part number k of a tuple. -/
def part (k : Nat) : Value → Value
  | .tuple vs => vs.getD k undef
  | _ => undef
theorem eg_End (args : Array Value) (w : World) : (callFunc 12 args).run Tryd.prog w = .ok (.enter 12 args) w := enters_of Tryd.func12 (by kernel_rfl) rfl args w
theorem frR11 {ops : Array Oper} {V : Nat → Value} {t : Array Value} {d0 d1 d2 d3 d4 d5 d6 d7 d8 d9 d10 : Nat} (hs : ops.size = 11) (h0 : dstOf ops 0 = some d0) (h1 : dstOf ops 1 = some d1) (h2 : dstOf ops 2 = some d2) (h3 : dstOf ops 3 = some d3) (h4 : dstOf ops 4 = some d4) (h5 : dstOf ops 5 = some d5) (h6 : dstOf ops 6 = some d6) (h7 : dstOf ops 7 = some d7) (h8 : dstOf ops 8 = some d8) (h9 : dstOf ops 9 = some d9) (h10 : dstOf ops 10 = some d10) : frF ops V t ops.size = (((((((((((t.setIfInBounds d0 (V 0)).setIfInBounds d1 (V 1)).setIfInBounds d2 (V 2)).setIfInBounds d3 (V 3)).setIfInBounds d4 (V 4)).setIfInBounds d5 (V 5)).setIfInBounds d6 (V 6)).setIfInBounds d7 (V 7)).setIfInBounds d8 (V 8)).setIfInBounds d9 (V 9)).setIfInBounds d10 (V 10)) := by
  rw [hs]
  simp only [frF, h0, h1, h2, h3, h4, h5, h6, h7, h8, h9, h10]
/-- What Step does at each of these certificates. -/
def StepsOk (w : World) (Y : List Ct) (Cs : List Ce) : Prop :=
  ∀ (i : Nat) (y : Ct) (c : Ce), Y[i]? = some y → Cs[i]? = some c → ∀ (W : World) (p : Po) (uv : Value), Below w.heap.size w W → TxS W uv p.S → PoOk p (1 + 400 * i) →
    Calls Tryd.prog 11 #[.agg #[uv, .int .i64 p.e, .int .i64 p.a], .agg (certL y).toArray, .bool (decide (i + 1 = Cs.length))] W fun e w' => StepOut w' e (stepP p c (decide (i + 1 = Cs.length))) ∧ Below W.heap.size W w'
set_option maxRecDepth 20000 in
set_option maxHeartbeats 1600000 in
theorem Run_any {w : World} (v u : Value) (Y : List Ct) (Cs : List Ce) (U : List Tx) (ex inh : Bool) (hv : CertS w v Y) (hu : TxS w u U) (hl : Y.length = Cs.length) (hn : Cs.length ≤ 1000) (hU : U.length ≤ 200000) (hS : StepsOk w Y Cs) (hC : ∀ c ∈ Cs, CeOk c) (hR : ∀ (i : Nat) (y : Ct) (c : Ce), Y[i]? = some y → Cs[i]? = some c → c.r = y.r) (hOne : ∀ (i : Nat) (y : Ct), Y[i]? = some y → (certL y).toArray.all (·.oneCell') = true) :
    Calls Tryd.prog 5 #[v, u, .bool ex, .bool inh] w fun e w' => EndOut w' e (runP Cs U ex inh) ∧ Below w.heap.size w w' := by
  obtain ⟨a, k, rfl, hk⟩ := hv.form
  cases hm : Cs.length with
  | zero =>
    have hY : Y = [] := List.eq_nil_of_length_eq_zero (by omega)
    have hCs : Cs = [] := List.eq_nil_of_length_eq_zero hm
    subst hY; subst hCs
    clear hv hu hS hC hR
    simp only [List.length_nil]
    go_enter Tryd.func5, Tryd.ntmps5
    go_wp2
    go_ret2
    exact ⟨⟨_, rfl, TxS.nil _⟩, Below.refl _ _⟩
  | succ m =>
    obtain ⟨n, hnm⟩ : ∃ n, m + 1 = n := ⟨_, rfl⟩
    rw [hl, hm, hnm] at hv hk ⊢
    have hmY : m < Y.length := by omega
    have hmC : m < Cs.length := by omega
    obtain ⟨yl, hyl⟩ : ∃ y, Y[m]? = some y := ⟨_, List.getElem?_eq_getElem hmY⟩
    obtain ⟨cl, hcl⟩ : ∃ c, Cs[m]? = some c := ⟨_, List.getElem?_eq_getElem hmC⟩
    obtain ⟨p0, hp0⟩ : ∃ p0, startP n ex inh = p0 := ⟨_, rfl⟩
    have hok0 := startP_ok n ex inh
    obtain ⟨O, hO⟩ : ∃ O, runP Cs U ex inh = O := ⟨_, rfl⟩
    rw [hO]
    have HO : Hid ((match stepsP p0 Cs with | none => ([], false) | some p => endP p cl U) = O) := by
      show _ = _
      rw [← hO, runP_at hm hcl, hnm, hp0]
      cases stepsP p0 Cs <;> rfl
    have HX : Hid (CertS w (.slice a n k) Y ∧ TxS w u U ∧ Y.length = n ∧ Cs.length = n ∧ (∀ c ∈ Cs, CeOk c) ∧ StepsOk w Y Cs) := ⟨hv, hu, by omega, by omega, hC, hS⟩
    have HSt : Hid (∀ w1 : World, Calls Tryd.prog 10 #[.int .i64 (n : Int), .bool ex, .bool inh] w1 fun e w' => ∃ v, e = .returned (.agg #[v, .int .i64 p0.e, .int .i64 p0.a]) ∧ TxS w' v p0.S ∧ Below w1.heap.size w1 w') := fun w1 => by rw [← hp0]; exact Start_any (n : Int) ex inh (by omega) (by omega)
    rw [hp0] at hok0
    have HK0 : Hid (PoOk p0 1) := hok0
    have HEn : Hid (∀ (W : World) (p : Po) (uv : Value), Below w.heap.size w W → TxS W uv p.S → PoOk p (1 + 400 * n) → Calls Tryd.prog 12 #[.agg #[uv, .int .i64 p.e, .int .i64 p.a], .agg (certL yl).toArray, u] W fun e w' => EndOut w' e (endP p cl U) ∧ Below W.heap.size W w') := fun W p uv h1 h2 h3 => by
      have := End_any (w := W) uv p.e p.a yl.nv yl.sub yl.cp yl.r yl.h u p.S U cl.P cl.own h2 (hu.below h1) (by have := h3.1; omega) (by omega) h3.2.1.1 h3.2.1.2
      have hr := hR m yl cl hyl hcl
      have he : endP ⟨p.S, p.e, p.a⟩ ⟨cl.P, yl.r, yl.h, cl.own⟩ U = endP p cl U := by unfold endP; simp only [hr]
      rw [he] at this
      exact this
    have hwn : IntKind.i64.wrap ((n : Int) - 1) = (m : Int) := by rw [IntKind.wrap_i64]; omega
    have hn1 : ((n : Int) == 0) = false := by simp; omega
    have hn0 : ¬ (n : Int) = 0 := by omega
    have hn2 : ¬ n = 0 := by omega
    have HOne : Hid (∀ (i : Nat) (y : Ct), Y[i]? = some y → (certL y).toArray.all (·.oneCell') = true) := hOne
    clear hv hu hS hC hR hO hl hm hok0 hp0 hOne
    go_enter Tryd.func5, Tryd.ntmps5
    go_upto_region 4 with (first
      | (go_at_call 10; refine (HSt.out _).mono ?_; rintro e w1 ⟨v1, rfl, hv1, hb1⟩; obtain ⟨s1, n1, k1, rfl⟩ := hv1.slice)
      | go_in)
    have hw1 : w.heap.size ≤ w1.heap.size := hb1.size
    obtain ⟨b0, hb0⟩ : ∃ b0, w1.heap.size = b0 := ⟨_, rfl⟩
    have hA0 := Blk.new 36 w1 [.slice s1 n1 k1, .int .i64 p0.e, .int .i64 p0.a]
    have hT0 := hv1.below ((Below.refl _ _).alloc (Nat.le_refl w1.heap.size) (.cells #[.slice s1 n1 k1, .int .i64 p0.e, .int .i64 p0.a] 36))
    have hB0 := hb1.alloc hb1.size (.cells #[.slice s1 n1 k1, .int .i64 p0.e, .int .i64 p0.a] 36)
    have HI : Hid (Blk 36 (w1.alloc (.cells #[.slice s1 n1 k1, .int .i64 p0.e, .int .i64 p0.a] 36)) b0 [.slice s1 n1 k1, .int .i64 p0.e, .int .i64 p0.a] ∧ TxS (w1.alloc (.cells #[.slice s1 n1 k1, .int .i64 p0.e, .int .i64 p0.a] 36)) (.slice s1 n1 k1) p0.S ∧ Below w.heap.size w (w1.alloc (.cells #[.slice s1 n1 k1, .int .i64 p0.e, .int .i64 p0.a] 36)) ∧ w.heap.size ≤ b0) := ⟨by rw [← hb0]; exact hA0, hT0, hB0, by omega⟩
    clear hA0 hT0 hB0 hv1 hb1 hw1
    rw [hb0]
    go_wp2
    go_loopw [28] (fun iv wr => ∃ (i : Nat) (p : Po) (s : Option Addr) (q c : Nat), iv = .int .i64 (i : Int) ∧ i ≤ n ∧ Blk 36 wr b0 [.slice s q c, .int .i64 p.e, .int .i64 p.a] ∧ TxS wr (.slice s q c) p.S ∧ PoOk p (1 + 400 * i) ∧ stepsP p0 Cs = stepsP p (Cs.drop i) ∧ Below w.heap.size w wr) (fun iv _ => n - (intOf iv).toNat)
    case atStart => exact ⟨0, p0, _, _, _, rfl, Nat.zero_le _, HI.out.1, HI.out.2.1, HK0.out, rfl, HI.out.2.2.1⟩
    case round =>
      obtain ⟨i, p, s, q, c, rfl, hi, hA, hT, hK, hE, hbl⟩ := hrel
      by_cases hlt : i < n
      · have hltI : (i : Int) < (n : Int) := by omega
        have hiY : i < Y.length := by have := HX.out.2.2.1; omega
        have hiC : i < Cs.length := by have := HX.out.2.2.2.1; omega
        obtain ⟨y, hy⟩ : ∃ y, Y[i]? = some y := ⟨_, List.getElem?_eq_getElem hiY⟩
        obtain ⟨ce, hce⟩ : ∃ ce, Cs[i]? = some ce := ⟨_, List.getElem?_eq_getElem hiC⟩
        obtain ⟨b, off, rfl, q0, _⟩ := (HX.out.1.below hbl).at hy
        obtain ⟨cs, hcs⟩ : ∃ cs, certL y = cs := ⟨_, rfl⟩
        rw [hcs] at q0
        obtain ⟨last, hlast⟩ : ∃ last, decide (i + 1 = n) = last := ⟨_, rfl⟩
        obtain ⟨sp, hsp⟩ : ∃ sp, stepP p ce last = sp := ⟨_, rfl⟩
        have HS : Hid (Blk 36 wr b0 [.slice s q c, .int .i64 p.e, .int .i64 p.a] ∧ TxS wr (.slice s q c) p.S ∧ Below w.heap.size w wr ∧ PoOk sp.1 (1 + 400 * (i + 1)) ∧ b0 < wr.heap.size) := ⟨hA, hT, hbl, by rw [← hsp]; have := stepP_ok last hK (HX.out.2.2.2.2.1 ce (List.mem_of_getElem? hce)); rwa [show 1 + 400 * (i + 1) = 1 + 400 * i + 400 by omega], hA.lt⟩
        have HQ : Hid (wr.rangeAt b (off + i * 31) cs ∧ (Tryd.prog.info? 51).map (·.size) = some cs.length ∧ cs.toArray.all (·.oneCell') = true ∧ cs.length = 31) := ⟨q0, by rw [← hcs]; exact szC, by rw [← hcs]; exact HOne.out i y hy, by rw [← hcs]; rfl⟩
        have HTh : Hid (World.there (wr.alloc (.cells #[.slice none 0 0, .slice none 0 0, .slice none 0 0, .slice none 0 0, .slice none 0 0, .int .i64 0, .int .i64 0, .int .i64 0, .slice none 0 0, .slice none 0 0, .slice none 0 0, .slice none 0 0, .int .i64 0, .int .i64 0, .int .i64 0, .int .i64 0, .slice none 0 0, .bool false, .int .i64 0, .int .i64 0, .slice none 0 0, .bool false, .slice none 0 0, .slice none 0 0, .slice none 0 0, .slice none 0 0, .int .i64 0, .int .i64 0, .slice none 0 0, .slice none 0 0, .bool false] 51)) wr.heap.size 0 cs.toArray.size ∧ (Tryd.prog.info? 51).map (·.size) = some cs.toArray.size) := ⟨by have hz : cs.toArray.size = 31 := HQ.out.2.2.2; rw [hz]; exact (Blk.new 51 wr [.slice none 0 0, .slice none 0 0, .slice none 0 0, .slice none 0 0, .slice none 0 0, .int .i64 0, .int .i64 0, .int .i64 0, .slice none 0 0, .slice none 0 0, .slice none 0 0, .slice none 0 0, .int .i64 0, .int .i64 0, .int .i64 0, .int .i64 0, .slice none 0 0, .bool false, .int .i64 0, .int .i64 0, .slice none 0 0, .bool false, .slice none 0 0, .slice none 0 0, .slice none 0 0, .slice none 0 0, .int .i64 0, .int .i64 0, .slice none 0 0, .slice none 0 0, .bool false]).there 0 31 (by simp), HQ.out.2.1⟩
        have HStp : Hid (∀ W : World, Below wr.heap.size wr W → TxS W (.slice s q c) p.S → Calls Tryd.prog 11 #[.agg #[.slice s q c, .int .i64 p.e, .int .i64 p.a], .agg cs.toArray, .bool last] W fun e w' => StepOut w' e sp ∧ Below W.heap.size W w') := fun W h1 h2 => by
          have := HX.out.2.2.2.2.2 i y ce hy hce W p (.slice s q c) (hbl.trans (h1.mono hbl.size)) h2 hK
          rw [HX.out.2.2.2.1, hlast, hsp, hcs] at this
          exact this
        have HNx : Hid (stepsP p0 Cs = if sp.2 = true then stepsP sp.1 (Cs.drop (i + 1)) else none) := by
          show _ = _
          rw [hE, steps_at hce, HX.out.2.2.2.1, hlast, hsp]
        have HL : Hid (decide (i + 1 = n) = last) := hlast
        clear hA hT hK hE hbl q0 hcs hsp hlast hy hce
        go_upto_region 7 with (first
          | (refine wpList_load_mid rfl 51 (.tmp 31) rfl b (off + i * 31) rfl cs _ HQ.out.1 Tryd.underlying51 rfl HQ.out.2.1 ?_)
          | (refine wpList_store_mid rfl 51 (.tmp 13) (.tmp 32) rfl wr.heap.size 0 cs.toArray rfl rfl HTh.out.1 HTh.out.2 HQ.out.2.2.1 ?_)
          | go_in)
        refine wp_genP (fun W2 => Blk 51 W2 wr.heap.size cs ∧ Below wr.heap.size wr W2) ⟨(Blk.new 51 wr [.slice none 0 0, .slice none 0 0, .slice none 0 0, .slice none 0 0, .slice none 0 0, .int .i64 0, .int .i64 0, .int .i64 0, .slice none 0 0, .slice none 0 0, .slice none 0 0, .slice none 0 0, .int .i64 0, .int .i64 0, .int .i64 0, .int .i64 0, .slice none 0 0, .bool false, .int .i64 0, .int .i64 0, .slice none 0 0, .bool false, .slice none 0 0, .slice none 0 0, .slice none 0 0, .slice none 0 0, .int .i64 0, .int .i64 0, .slice none 0 0, .slice none 0 0, .bool false]).fill cs (by rw [HQ.out.2.2.2]; rfl), (Upd.setCells cs 0 _).below ((Below.refl wr.heap.size wr).alloc (Nat.le_refl _) _) (by simp) (Nat.le_refl _)⟩ ?_
        rintro W2 ⟨g1, g2⟩
        have H2 : Hid (Blk 51 W2 wr.heap.size cs ∧ Blk 36 W2 b0 [.slice s q c, .int .i64 p.e, .int .i64 p.a] ∧ TxS W2 (.slice s q c) p.S ∧ Below wr.heap.size wr W2) := ⟨g1, below_blk g2 HS.out.2.2.2.2 HS.out.1, HS.out.2.1.below g2, g2⟩
        clear g1 g2
        obtain ⟨po, okb⟩ := sp
        by_cases him : i = m
        · have hib : ((i : Int) == (m : Int)) = true := by simp [him]
          have hin : i + 1 = n := by omega
          obtain rfl : last = true := by rw [← HL.out]; exact decide_eq_true hin
          cases okb with
          | true =>
            go_wp2_with (first
              | (refine wpList_load_mid rfl 36 (.tmp 10) rfl b0 0 rfl [.slice s q c, .int .i64 p.e, .int .i64 p.a] _ H2.out.2.1.whole Tryd.underlying36 rfl szPo ?_)
              | (refine wpList_load_mid rfl 51 (.tmp 13) rfl wr.heap.size 0 rfl cs _ H2.out.1.whole Tryd.underlying51 rfl HQ.out.2.1 ?_)
              | (go_at_call 11; refine (HStp.out W2 H2.out.2.2.2 H2.out.2.2.1).mono ?_; rintro e w3 ⟨⟨r, rfl, hr⟩, hb3⟩; obtain ⟨s3, q3, c3, rfl⟩ := hr.slice; have H3 : Hid (Blk 36 w3 b0 [.slice s q c, .int .i64 p.e, .int .i64 p.a] ∧ TxS w3 (.slice s3 q3 c3) po.S ∧ Below w.heap.size w w3) := ⟨below_blk hb3 H2.out.2.1.lt H2.out.2.1, hr, HS.out.2.2.1.trans ((H2.out.2.2.2.mono HS.out.2.2.1.size).trans (hb3.mono (Nat.le_trans HS.out.2.2.1.size H2.out.2.2.2.size)))⟩)
              | (refine wpList_store_mid rfl 36 (.tmp 10) (.tmp 40) rfl b0 0 #[.slice s3 q3 c3, .int .i64 po.e, .int .i64 po.a] rfl rfl (H3.out.1.there 0 3 (by simp)) szPo (one3 _ _ _ _ _) ?_)
              | go_in)
            have H4 : Hid (Blk 36 (w3.setCells b0 0 [.slice s3 q3 c3, .int .i64 po.e, .int .i64 po.a]) b0 [.slice s3 q3 c3, .int .i64 po.e, .int .i64 po.a] ∧ TxS (w3.setCells b0 0 [.slice s3 q3 c3, .int .i64 po.e, .int .i64 po.a]) (.slice s3 q3 c3) po.S ∧ Below w.heap.size w (w3.setCells b0 0 [.slice s3 q3 c3, .int .i64 po.e, .int .i64 po.a])) := ⟨H3.out.1.fill _ rfl, H3.out.2.1.upd H3.out.1 (box_no _ _ _ _ _) (Upd.setCells _ 0 w3), (Upd.setCells _ 0 w3).below H3.out.2.2 H3.out.2.2.size HI.out.2.2.2⟩
            go_roundw
            case rel => exact ⟨i + 1, po, _, _, _, by go_num, by omega, H4.out.1, H4.out.2.1, HS.out.2.2.2.1, HNx.out, H4.out.2.2⟩
            case measure => simp [intOf]; omega
          | false =>
            go_wp2_with (first
              | (refine wpList_load_mid rfl 36 (.tmp 10) rfl b0 0 rfl [.slice s q c, .int .i64 p.e, .int .i64 p.a] _ H2.out.2.1.whole Tryd.underlying36 rfl szPo ?_)
              | (refine wpList_load_mid rfl 51 (.tmp 13) rfl wr.heap.size 0 rfl cs _ H2.out.1.whole Tryd.underlying51 rfl HQ.out.2.1 ?_)
              | (go_at_call 11; refine (HStp.out W2 H2.out.2.2.2 H2.out.2.2.1).mono ?_; rintro e w3 ⟨⟨r, rfl, hr⟩, hb3⟩; obtain ⟨s3, q3, c3, rfl⟩ := hr.slice; have H3 : Hid (Blk 36 w3 b0 [.slice s q c, .int .i64 p.e, .int .i64 p.a] ∧ TxS w3 (.slice s3 q3 c3) po.S ∧ Below w.heap.size w w3) := ⟨below_blk hb3 H2.out.2.1.lt H2.out.2.1, hr, HS.out.2.2.1.trans ((H2.out.2.2.2.mono HS.out.2.2.1.size).trans (hb3.mono (Nat.le_trans HS.out.2.2.1.size H2.out.2.2.2.size)))⟩)
              | (refine wpList_store_mid rfl 36 (.tmp 10) (.tmp 40) rfl b0 0 #[.slice s3 q3 c3, .int .i64 po.e, .int .i64 po.a] rfl rfl (H3.out.1.there 0 3 (by simp)) szPo (one3 _ _ _ _ _) ?_)
              | go_in)
            have H4 : Hid (Blk 36 (w3.setCells b0 0 [.slice s3 q3 c3, .int .i64 po.e, .int .i64 po.a]) b0 [.slice s3 q3 c3, .int .i64 po.e, .int .i64 po.a] ∧ TxS (w3.setCells b0 0 [.slice s3 q3 c3, .int .i64 po.e, .int .i64 po.a]) (.slice s3 q3 c3) po.S ∧ Below w.heap.size w (w3.setCells b0 0 [.slice s3 q3 c3, .int .i64 po.e, .int .i64 po.a])) := ⟨H3.out.1.fill _ rfl, H3.out.2.1.upd H3.out.1 (box_no _ _ _ _ _) (Upd.setCells _ 0 w3), (Upd.setCells _ 0 w3).below H3.out.2.2 H3.out.2.2.size HI.out.2.2.2⟩
            have hOn := HO.out
            rw [show stepsP p0 Cs = none from HNx.out] at hOn
            simp only [] at hOn
            subst hOn
            go_ret2
            exact ⟨⟨_, rfl, TxS.nil _⟩, H4.out.2.2⟩
        · have hib : ((i : Int) == (m : Int)) = false := by simp; omega
          have hin : ¬ i + 1 = n := by omega
          obtain rfl : last = false := by rw [← HL.out]; exact decide_eq_false hin
          cases okb with
          | true =>
            go_wp2_with (first
              | (refine wpList_load_mid rfl 36 (.tmp 10) rfl b0 0 rfl [.slice s q c, .int .i64 p.e, .int .i64 p.a] _ H2.out.2.1.whole Tryd.underlying36 rfl szPo ?_)
              | (refine wpList_load_mid rfl 51 (.tmp 13) rfl wr.heap.size 0 rfl cs _ H2.out.1.whole Tryd.underlying51 rfl HQ.out.2.1 ?_)
              | (go_at_call 11; refine (HStp.out W2 H2.out.2.2.2 H2.out.2.2.1).mono ?_; rintro e w3 ⟨⟨r, rfl, hr⟩, hb3⟩; obtain ⟨s3, q3, c3, rfl⟩ := hr.slice; have H3 : Hid (Blk 36 w3 b0 [.slice s q c, .int .i64 p.e, .int .i64 p.a] ∧ TxS w3 (.slice s3 q3 c3) po.S ∧ Below w.heap.size w w3) := ⟨below_blk hb3 H2.out.2.1.lt H2.out.2.1, hr, HS.out.2.2.1.trans ((H2.out.2.2.2.mono HS.out.2.2.1.size).trans (hb3.mono (Nat.le_trans HS.out.2.2.1.size H2.out.2.2.2.size)))⟩)
              | (refine wpList_store_mid rfl 36 (.tmp 10) (.tmp 40) rfl b0 0 #[.slice s3 q3 c3, .int .i64 po.e, .int .i64 po.a] rfl rfl (H3.out.1.there 0 3 (by simp)) szPo (one3 _ _ _ _ _) ?_)
              | go_in)
            have H4 : Hid (Blk 36 (w3.setCells b0 0 [.slice s3 q3 c3, .int .i64 po.e, .int .i64 po.a]) b0 [.slice s3 q3 c3, .int .i64 po.e, .int .i64 po.a] ∧ TxS (w3.setCells b0 0 [.slice s3 q3 c3, .int .i64 po.e, .int .i64 po.a]) (.slice s3 q3 c3) po.S ∧ Below w.heap.size w (w3.setCells b0 0 [.slice s3 q3 c3, .int .i64 po.e, .int .i64 po.a])) := ⟨H3.out.1.fill _ rfl, H3.out.2.1.upd H3.out.1 (box_no _ _ _ _ _) (Upd.setCells _ 0 w3), (Upd.setCells _ 0 w3).below H3.out.2.2 H3.out.2.2.size HI.out.2.2.2⟩
            go_roundw
            case rel => exact ⟨i + 1, po, _, _, _, by go_num, by omega, H4.out.1, H4.out.2.1, HS.out.2.2.2.1, HNx.out, H4.out.2.2⟩
            case measure => simp [intOf]; omega
          | false =>
            go_wp2_with (first
              | (refine wpList_load_mid rfl 36 (.tmp 10) rfl b0 0 rfl [.slice s q c, .int .i64 p.e, .int .i64 p.a] _ H2.out.2.1.whole Tryd.underlying36 rfl szPo ?_)
              | (refine wpList_load_mid rfl 51 (.tmp 13) rfl wr.heap.size 0 rfl cs _ H2.out.1.whole Tryd.underlying51 rfl HQ.out.2.1 ?_)
              | (go_at_call 11; refine (HStp.out W2 H2.out.2.2.2 H2.out.2.2.1).mono ?_; rintro e w3 ⟨⟨r, rfl, hr⟩, hb3⟩; obtain ⟨s3, q3, c3, rfl⟩ := hr.slice; have H3 : Hid (Blk 36 w3 b0 [.slice s q c, .int .i64 p.e, .int .i64 p.a] ∧ TxS w3 (.slice s3 q3 c3) po.S ∧ Below w.heap.size w w3) := ⟨below_blk hb3 H2.out.2.1.lt H2.out.2.1, hr, HS.out.2.2.1.trans ((H2.out.2.2.2.mono HS.out.2.2.1.size).trans (hb3.mono (Nat.le_trans HS.out.2.2.1.size H2.out.2.2.2.size)))⟩)
              | (refine wpList_store_mid rfl 36 (.tmp 10) (.tmp 40) rfl b0 0 #[.slice s3 q3 c3, .int .i64 po.e, .int .i64 po.a] rfl rfl (H3.out.1.there 0 3 (by simp)) szPo (one3 _ _ _ _ _) ?_)
              | go_in)
            have H4 : Hid (Blk 36 (w3.setCells b0 0 [.slice s3 q3 c3, .int .i64 po.e, .int .i64 po.a]) b0 [.slice s3 q3 c3, .int .i64 po.e, .int .i64 po.a] ∧ TxS (w3.setCells b0 0 [.slice s3 q3 c3, .int .i64 po.e, .int .i64 po.a]) (.slice s3 q3 c3) po.S ∧ Below w.heap.size w (w3.setCells b0 0 [.slice s3 q3 c3, .int .i64 po.e, .int .i64 po.a])) := ⟨H3.out.1.fill _ rfl, H3.out.2.1.upd H3.out.1 (box_no _ _ _ _ _) (Upd.setCells _ 0 w3), (Upd.setCells _ 0 w3).below H3.out.2.2 H3.out.2.2.size HI.out.2.2.2⟩
            have hOn := HO.out
            rw [show stepsP p0 Cs = none from HNx.out] at hOn
            simp only [] at hOn
            subst hOn
            go_ret2
            exact ⟨⟨_, rfl, TxS.nil _⟩, H4.out.2.2⟩
      · obtain rfl : i = n := by omega
        have hltI : ¬ (i : Int) < (i : Int) := by omega
        have hOn := HO.out
        have hEn : stepsP p0 Cs = some p := by rw [hE, List.drop_of_length_le (by rw [HX.out.2.2.2.1]; exact Nat.le_refl _)]; rfl
        rw [hEn] at hOn
        simp only [] at hOn
        obtain ⟨b, off, rfl, q0, hbw⟩ := (HX.out.1.below hbl).at hyl
        obtain ⟨cs, hcs⟩ : ∃ cs, certL yl = cs := ⟨_, rfl⟩
        rw [hcs] at q0
        have HQ : Hid (wr.rangeAt b (off + m * 31) cs ∧ (Tryd.prog.info? 51).map (·.size) = some cs.length ∧ b < wr.heap.size ∧ b0 < wr.heap.size) := ⟨q0, by rw [← hcs]; exact szC, hbw, hA.lt⟩
        have HEnd : Hid (∀ W : World, Below wr.heap.size wr W → Calls Tryd.prog 12 #[.agg #[.slice s q c, .int .i64 p.e, .int .i64 p.a], .agg cs.toArray, u] W fun e w' => EndOut w' e (endP p cl U) ∧ Below W.heap.size W w') := fun W h => by
          have := HEn.out W p (.slice s q c) (hbl.trans (h.mono hbl.size)) (hT.below h) hK
          rw [hcs] at this
          exact this
        rw [hOn] at HEnd
        have HB : Hid (Below w.heap.size w wr ∧ Blk 36 wr b0 [.slice s q c, .int .i64 p.e, .int .i64 p.a]) := ⟨hbl, hA⟩
        have hmn : m < i := by omega
        have hmI : (m : Int) < (i : Int) := by omega
        clear hA hT hK hE hbl q0 hcs hEn hOn HEn
        go_upto_region 12 with (fail)
        refine wp_region_cl (β := Value) (fun bv kk => ([.agg #[.slice s q c, .int .i64 p.e, .int .i64 p.a], .slice (some ⟨b, off, none⟩) i k, .int .i64 (m : Int), .pointer (some ⟨b, off + m * 31, none⟩), .agg cs.toArray, u, bv, part 0 bv, part 1 bv, part 0 bv, part 1 bv] : List Value).getD kk undef) (fun bv LB W => Below wr.heap.size wr W ∧ (Up LB 6 → ∃ r, bv = .tuple #[r, .bool O.2] ∧ TxS W r O.1)) undef rfl (by decide +kernel) (show dstB _ 54 = true by decide +kernel) ⟨(Below.refl _ _).drew, fun u => absurd u not_up_new⟩ (fun bv LB W hup hS => ?_) (fun k9 bv LB W a hk hno hsz hdep hv h0 hcl hS => ?_)
        rotate_left
        · replace hk : k9 < 11 := hk
          have x10 : a.eval (.tmp 10) = .pointer (some ⟨b0, 0, none⟩) := (h0 10 (by decide +kernel)).trans rfl
          have x0 : a.eval (.tmp 0) = .slice (some ⟨b, off, none⟩) i k := (h0 0 (by decide +kernel)).trans rfl
          have x11 : a.eval (.tmp 11) = .int .i64 (m : Int) := (h0 11 (by decide +kernel)).trans rfl
          have x1 : a.eval (.tmp 1) = u := (h0 1 (by decide +kernel)).trans rfl
          have eU : ∀ j q, q ≠ j → Up (LB.setIfInBounds j true) q → Up LB q := fun j q hq u => by unfold Up at u ⊢; rwa [getD_setB hq] at u
          have st : ∀ j : Nat, j ≠ 6 → Below wr.heap.size wr W ∧ (Up (LB.setIfInBounds j true) 6 → ∃ r, bv = .tuple #[r, .bool O.2] ∧ TxS W r O.1) := fun j n6 => ⟨hS.1, fun u => hS.2 (eU j 6 (fun h => n6 h.symm) u)⟩
          obtain rfl | rfl | rfl | rfl | rfl | rfl | rfl | rfl | rfl | rfl | rfl : k9 = 0 ∨ k9 = 1 ∨ k9 = 2 ∨ k9 = 3 ∨ k9 = 4 ∨ k9 = 5 ∨ k9 = 6 ∨ k9 = 7 ∨ k9 = 8 ∨ k9 = 9 ∨ k9 = 10 := by omega
          · exact rg_load rfl (wn_any rfl) rfl x10 (below_blk hS.1 HQ.out.2.2.2 HB.out.2).whole Tryd.underlying36 rfl szPo rfl (st 0 (by decide))
          · exact rg_val rfl (wn_any rfl) (run_mv rfl x0) (st 1 (by decide))
          · exact rg_val rfl (wn_any rfl) (run_mv rfl x11) (st 2 (by decide))
          · have e46 : a.eval (.tmp 46) = .slice (some ⟨b, off, none⟩) i k := hv 1 _ (show 1 < 11 by decide) (hdep 1 (by decide +kernel)) rfl
            have e47 : a.eval (.tmp 47) = .int .i64 (m : Int) := hv 2 _ (show 2 < 11 by decide) (hdep 2 (by decide +kernel)) rfl
            exact rg_val rfl (wn_any rfl) (run_ia (v := .pointer (some ⟨b, off + m * 31, none⟩)) rfl e46 e47 (by simp [go_sem, Instr.indexAt, hmn])) (st 3 (by decide))
          · have e48 : a.eval (.tmp 48) = .pointer (some ⟨b, off + m * 31, none⟩) := hv 3 _ (show 3 < 11 by decide) (hdep 3 (by decide +kernel)) rfl
            exact rg_load rfl (wn_any rfl) rfl e48 (fun j v hj => (hS.1.cell (p := ⟨b, off + m * 31 + j, none⟩) HQ.out.2.2.1).trans (HQ.out.1 j v hj)) Tryd.underlying51 rfl HQ.out.2.1 rfl (st 4 (by decide))
          · exact rg_val rfl (wn_any rfl) (run_mv rfl x1) (st 5 (by decide))
          · have e45 : a.eval (.tmp 45) = .agg #[.slice s q c, .int .i64 p.e, .int .i64 p.a] := hv 0 _ (show 0 < 11 by decide) (hdep 0 (by decide +kernel)) rfl
            have e49 : a.eval (.tmp 49) = .agg cs.toArray := hv 4 _ (show 4 < 11 by decide) (hdep 4 (by decide +kernel)) rfl
            have e50 : a.eval (.tmp 50) = u := hv 5 _ (show 5 < 11 by decide) (hdep 5 (by decide +kernel)) rfl
            refine rg_callu rfl (wn_any rfl) (run_cl3 rfl e45 e49 e50 eg_End) (R := fun v w' => (∃ r, v = .tuple #[r, .bool O.2] ∧ TxS w' r O.1) ∧ Below W.heap.size W w') ((HEnd.out W hS.1).mono ?_) (fun v => v) (fun v => rfl) (fun v k2 hk hup => ?_) (fun v w' h => ⟨below_via hS.1 h.2 (Nat.le_refl _), fun _ => h.1⟩)
            · rintro e w' ⟨⟨r, rfl, h1⟩, h2⟩; exact ⟨_, rfl, ⟨r, rfl, h1⟩, h2⟩
            · rcases k2 with _ | _ | _ | _ | _ | _ | _ | _ | _ | _ | _ | k2
              all_goals first | rfl | exact absurd rfl hk | exact absurd (hcl 7 hup 6 (by decide +kernel)) hno | exact absurd (hcl 8 hup 6 (by decide +kernel)) hno | exact absurd (hcl 9 hup 6 (by decide +kernel)) hno | exact absurd (hcl 10 hup 6 (by decide +kernel)) hno
          · obtain ⟨r, hr, _⟩ := hS.2 (hdep 6 (by decide +kernel))
            have e51 : a.eval (.tmp 51) = bv := hv 6 _ (show 6 < 11 by decide) (hdep 6 (by decide +kernel)) rfl
            exact rg_val rfl (wn_any rfl) (run_ex rfl (e51.trans hr) (by rw [hr]; rfl)) (st 7 (by decide))
          · obtain ⟨r, hr, _⟩ := hS.2 (hdep 6 (by decide +kernel))
            have e51 : a.eval (.tmp 51) = bv := hv 6 _ (show 6 < 11 by decide) (hdep 6 (by decide +kernel)) rfl
            exact rg_val rfl (wn_any rfl) (run_ex rfl (e51.trans hr) (by rw [hr]; rfl)) (st 8 (by decide))
          · have e52 : a.eval (.tmp 52) = part 0 bv := hv 7 _ (show 7 < 11 by decide) (hdep 7 (by decide +kernel)) rfl
            exact rg_val rfl (wn_any rfl) (run_asg rfl e52) (st 9 (by decide))
          · have e53 : a.eval (.tmp 53) = part 1 bv := hv 8 _ (show 8 < 11 by decide) (hdep 8 (by decide +kernel)) rfl
            exact rg_val rfl (wn_any rfl) (run_asg rfl e53) (st 10 (by decide))
        rw [frR11 rfl rfl rfl rfl rfl rfl rfl rfl rfl rfl rfl rfl]
        simp only [List.setIfInBounds_toArray, List.set_cons_succ, List.set_cons_zero, List.getD_cons_zero, List.getD_cons_succ]
        obtain ⟨r, rfl, hr⟩ := hS.2 (hup 6 (by decide))
        have hbF := HB.out.1.trans (hS.1.mono HB.out.1.size)
        clear hS hup
        go_wp2
        go_ret2
        exact ⟨⟨_, rfl, hr⟩, hbF⟩
end Go.Proofs.YtkjdihikcgpababDoor
/-
  Policy: the reference's Texts, in, Same.
-/
namespace Go.Proofs.YtkjdihikcgpababDoor
open Go.RowKit Go.Sort Go.Lib
set_option maxRecDepth 20000 in
set_option maxHeartbeats 4000000 in
theorem Texts_any {w : World} (v u : Value) (A B : List Tx) (hx : TxS w v A) (hy : TxS w u B) (lA : A.length ≤ 1048576) (lB : B.length ≤ 1048576) :
    Calls Tryd.prog 9 #[v, u] w fun e w' => e = .returned (.bool (decide (A = B))) ∧ Below w.heap.size w w' := by
  obtain ⟨a, c, rfl, hc⟩ := hx.form
  obtain ⟨a2, c2, rfl, hc2⟩ := hy.form
  by_cases hl : A.length = B.length
  · obtain ⟨n, hn⟩ : ∃ n, B.length = n := ⟨_, rfl⟩
    rw [hn] at hl hc2 hy lB
    rw [hl] at hc hx lA
    have HX : Hid (TxS w (.slice a n c) A ∧ TxS w (.slice a2 n c2) B ∧ A.length = n ∧ B.length = n) := ⟨hx, hy, hl, hn⟩
    obtain ⟨O, hO⟩ : ∃ O, decide (A = B) = O := ⟨_, rfl⟩
    rw [hO, hl, hn]
    have HO : Hid (decide (A = B) = O) := hO
    clear hx hy hl hn hO
    go_enter Tryd.func9, Tryd.ntmps9
    go_wp2
    go_loopw [5] (fun i wr => ∃ k : Nat, k ≤ n ∧ i = .int .i64 (k : Int) ∧ A.take k = B.take k ∧ Below w.heap.size w wr) (fun i _ => n - (intOf i).toNat)
    case atStart => exact ⟨0, Nat.zero_le _, rfl, rfl, Below.refl _ _⟩
    case round =>
      obtain ⟨k, hk, rfl, hE, hB⟩ := hrel
      by_cases hkn : k < n
      · have hkI : (k : Int) < (n : Int) := by omega
        have kA : k < A.length := by rw [HX.out.2.2.1]; exact hkn
        have kB : k < B.length := by rw [HX.out.2.2.2]; exact hkn
        obtain ⟨b1, o1, rfl, q1, _⟩ := (HX.out.1.below hB).at kA
        obtain ⟨b2, o2, rfl, q2, _⟩ := (HX.out.2.1.below hB).at kB
        obtain ⟨x, hx⟩ : ∃ x, A[k] = x := ⟨_, rfl⟩
        obtain ⟨y, hy⟩ : ∃ y, B[k] = y := ⟨_, rfl⟩
        rw [hx] at q1
        rw [hy] at q2
        have HE : Hid (A.take (k + 1) = A.take k ++ [x] ∧ B.take (k + 1) = B.take k ++ [y] ∧ A.take k = B.take k ∧ Below w.heap.size w wr ∧ A[k]? = some x ∧ B[k]? = some y) := ⟨by rw [List.take_succ_eq_append_getElem kA, hx], by rw [List.take_succ_eq_append_getElem kB, hy], hE, hB, by rw [List.getElem?_eq_getElem kA, hx], by rw [List.getElem?_eq_getElem kB, hy]⟩
        clear hE hB hx hy
        by_cases hxy : x = y
        · subst hxy
          have hb : (x == x) = true := by simp
          go_wp2
          go_quiet (fail)
          go_wp2
          go_roundw
          case rel => exact ⟨k + 1, by omega, by go_num, by rw [HE.out.1, HE.out.2.1, HE.out.2.2.1], below_drewN _ HE.out.2.2.2.1⟩
          case measure => simp [intOf]; omega
        · have hb : (x == y) = false := by simpa using hxy
          have HF : Hid (O = false) := by
            show _ = _
            rw [← HO.out]
            refine decide_eq_false fun e => hxy ?_
            have h5 := HE.out.2.2.2.2.1
            rw [e, HE.out.2.2.2.2.2] at h5
            exact (Option.some.inj h5).symm
          go_wp2
          go_quiet (fail)
          go_wp2
          go_ret
          exact ⟨by rw [HF.out]; exact rfl, below_drewN _ HE.out.2.2.2.1⟩
      · obtain rfl : k = n := by omega
        have hkI : ¬ (k : Int) < (k : Int) := by omega
        have HT : Hid (O = true) := by
          show _ = _
          rw [← HO.out]
          refine decide_eq_true ?_
          rw [List.take_of_length_le (Nat.le_of_eq HX.out.2.2.1), List.take_of_length_le (Nat.le_of_eq HX.out.2.2.2)] at hE
          exact hE
        have HB : Hid (Below w.heap.size w wr) := hB
        clear hE hB
        go_wp2
        go_ret
        exact ⟨by rw [HT.out]; exact rfl, HB.out⟩
  · obtain ⟨n, hn⟩ : ∃ n, A.length = n := ⟨_, rfl⟩
    obtain ⟨m, hm⟩ : ∃ m, B.length = m := ⟨_, rfl⟩
    rw [hn, hm] at hl
    have HD : Hid (decide (A = B) = false) := decide_eq_false (fun e => hl (by rw [← hn, ← hm, e]))
    rw [hn, hm, HD.out]
    have h1 : ¬ (n : Int) = (m : Int) := by omega
    have h2 : ((n : Int) == (m : Int)) = false := by simpa using h1
    clear hx hy hn hm HD
    go_enter Tryd.func9, Tryd.ntmps9
    go_wp2
    go_ret
    exact ⟨rfl, Below.refl _ _⟩
set_option maxRecDepth 20000 in
set_option maxHeartbeats 4000000 in
theorem in_any {w : World} (s : Tx) (v : Value) (L : List Tx) (hv : TxS w v L) (hL : L.length ≤ 1048576) :
    Calls Tryd.prog 14 #[encStr s, v] w fun e w' => e = .returned (.bool (decide (s ∈ L))) ∧ Below w.heap.size w w' := by
  obtain ⟨n, hn⟩ : ∃ n, L.length = n := ⟨_, rfl⟩
  obtain ⟨a, c, rfl, hc⟩ := hv.form
  rw [hn] at hv hL hc ⊢
  have HX : Hid (TxS w (.slice a n c) L ∧ L.length = n) := ⟨hv, hn⟩
  obtain ⟨O, hO⟩ : ∃ O, decide (s ∈ L) = O := ⟨_, rfl⟩
  rw [hO]
  have HO : Hid (decide (s ∈ L) = O) := hO
  clear hv hn hO
  go_enter Tryd.func14, Tryd.ntmps14
  go_wp2
  go_loopw [5] (fun i wr => ∃ k : Nat, k ≤ n ∧ i = .int .i64 (k : Int) ∧ s ∉ L.take k ∧ Below w.heap.size w wr) (fun i _ => n - (intOf i).toNat)
  case atStart => exact ⟨0, Nat.zero_le _, rfl, by simp, Below.refl _ _⟩
  case round =>
    obtain ⟨k, hk, rfl, hE, hB⟩ := hrel
    by_cases hkn : k < n
    · have hkI : (k : Int) < (n : Int) := by omega
      have kA : k < L.length := by rw [HX.out.2]; exact hkn
      obtain ⟨b1, o1, rfl, q1, _⟩ := (HX.out.1.below hB).at kA
      obtain ⟨x, hx⟩ : ∃ x, L[k] = x := ⟨_, rfl⟩
      rw [hx] at q1
      have HE : Hid (L.take (k + 1) = L.take k ++ [x] ∧ s ∉ L.take k ∧ Below w.heap.size w wr ∧ x ∈ L) := ⟨by rw [List.take_succ_eq_append_getElem kA, hx], hE, hB, by rw [← hx]; exact List.getElem_mem kA⟩
      clear hE hB hx
      by_cases hxy : x = s
      · subst hxy
        have hb : (x == x) = true := by simp
        have HF : Hid (O = true) := by
          show _ = _
          rw [← HO.out]
          exact decide_eq_true HE.out.2.2.2
        go_wp2
        go_ret
        exact ⟨by rw [HF.out]; exact rfl, HE.out.2.2.1⟩
      · have hb : (x == s) = false := by simpa using hxy
        go_wp2
        go_roundw
        case rel => exact ⟨k + 1, by omega, by go_num, by rw [HE.out.1, List.mem_append]; rintro (h | h); exact HE.out.2.1 h; exact hxy (List.mem_singleton.1 h).symm, HE.out.2.2.1⟩
        case measure => simp [intOf]; omega
    · obtain rfl : k = n := by omega
      have hkI : ¬ (k : Int) < (k : Int) := by omega
      have HT : Hid (O = false) := by
        show _ = _
        rw [← HO.out]
        refine decide_eq_false ?_
        rw [List.take_of_length_le (Nat.le_of_eq HX.out.2)] at hE
        exact hE
      have HB : Hid (Below w.heap.size w wr) := hB
      clear hE hB
      go_wp2
      go_ret
      exact ⟨by rw [HT.out]; exact rfl, HB.out⟩
end Go.Proofs.YtkjdihikcgpababDoor
