/-
  Alg: Sign.
-/
import Derived.Test.YtillkhjihggcjaaGreatDoorK13
namespace Go.Proofs.YtillkhjihggcjaaGreatDoor
open Go.RowKit
set_option maxRecDepth 20000
def sgV : Option Al → Al
  | none => ⟨0, 0, 0, 0⟩
  | some a => a
def sgE : Option Al → Int
  | none => 110
  | some _ => 0
/-- What readWay tells, in one form. -/
theorem PssAns.uni {an : Addr} {e : Ending} {O : Option Al} (h : PssAns an e O) : ∃ f, e = .returned (.tuple #[.agg #[.int .i64 (sgV O).k, .int .i64 (sgV O).d, .int .i64 (sgV O).m, .int .i64 (sgV O).s], f]) ∧ ((O = none ∧ ∃ s, f = flV an s) ∨ (O ≠ none ∧ f = .nilIface)) := by
  cases O with
  | none => obtain ⟨s, rfl⟩ := h; exact ⟨_, rfl, .inl ⟨rfl, s, rfl⟩⟩
  | some a => exact ⟨_, h, .inr ⟨by simp, rfl⟩⟩
set_option maxHeartbeats 2000000 in
theorem Sign_any {w : World} {an ak : Addr} (hG : Glb w an ak) (hT : P10 w) (x : El) (a1 : Option Addr) (n1 c1 : Nat) (a2 : Option Addr) (n2 c2 : Nat) (hD : Sl .u8 w (.slice a1 n1 c1) x.d) (uD : U8s x.d) (lD : x.d.length ≤ 5000) :
    Calls Tryz.prog 9 #[.agg #[.int .i64 x.cl, .int .i64 x.tg, .bool x.co, .slice a1 n1 c1, .slice a2 n2 c2]] w fun e w' => e = .returned (.tuple #[.agg #[.int .i64 (sgV (sgnS x)).k, .int .i64 (sgV (sgnS x)).d, .int .i64 (sgV (sgnS x)).m, .int .i64 (sgV (sgnS x)).s], .int .i64 (sgE (sgnS x))]) ∧ Below w.heap.size w w' := by
  have HI : Hid (∀ W, Below w.heap.size w W → Calls Tryz.prog 26 #[.agg #[.int .i64 x.cl, .int .i64 x.tg, .bool x.co, .slice a1 n1 c1, .slice a2 n2 c2]] W fun e w' => PssAns an e (sgnS x) ∧ Below W.heap.size W w') := fun W h => readWay_any (hG.below h) (hT.below h) x a1 n1 c1 a2 n2 c2 (below_sl h hD) uD lD
  obtain ⟨O, hO⟩ : ∃ O, sgnS x = O := ⟨_, rfl⟩
  rw [hO] at HI ⊢
  have HTold : Hid (∀ W f, Below w.heap.size w W → ((O = none ∧ ∃ s, f = flV an s) ∨ (O ≠ none ∧ f = .nilIface)) → Calls Tryz.prog 22 #[f] W fun e w' => e = .returned (.int .i64 (sgE O)) ∧ Below W.heap.size W w') := fun W f h hf => by
    rcases hf with ⟨rfl, s, rfl⟩ | ⟨hO, rfl⟩
    · exact toldN (hG.below h) s
    · have : sgE O = 0 := by cases O with
        | none => exact absurd rfl hO
        | some _ => rfl
      rw [this]
      exact told0.mono fun e w' ⟨h1, h2⟩ => ⟨h1, by rw [← h2]; exact Below.refl _ _⟩
  obtain ⟨cl, tg, co, D, R⟩ := x
  simp only [] at hD HI ⊢
  obtain ⟨⟨A0, A1, A2, A3⟩, hA⟩ : ∃ A, sgV O = A := ⟨_, rfl⟩
  obtain ⟨er, her⟩ : ∃ er, sgE O = er := ⟨_, rfl⟩
  rw [her] at HTold
  have HA : Hid (sgV O = ⟨A0, A1, A2, A3⟩) := hA
  rw [hA, her]
  simp only []
  clear hD uD lD hO hG hT hA her
  go_enter Tryz.func9, Tryz.ntmps9
  go_upto_region 1 with (fail)
  refine wp_gen (fun W => Blk 24 W w.heap.size [.int .i64 cl, .int .i64 tg, .bool co, .slice a1 n1 c1, .slice a2 n2 c2] ∧ Blk 32 W (w.heap.size + 1) [.int .i64 0, .int .i64 0, .int .i64 0, .int .i64 0] ∧ Below w.heap.size w W) ⟨(Blk.new _ w _).alloc _, by
    have := Blk.new 32 (w.alloc (.cells #[.int .i64 cl, .int .i64 tg, .bool co, .slice a1 n1 c1, .slice a2 n2 c2] 24)) [.int .i64 0, .int .i64 0, .int .i64 0, .int .i64 0]
    rw [World.size_alloc] at this
    exact this, below_via (al1 _) (al1 _) (Nat.le_refl _)⟩ ?_
  rintro W1 ⟨hX, hZ, hW1⟩
  have x0 : W1.cell? ⟨w.heap.size, 0, none⟩ = some (.int .i64 cl) := hX.cell 0
  have x1 : W1.cell? ⟨w.heap.size, 1, none⟩ = some (.int .i64 tg) := hX.cell 1
  have x2 : W1.cell? ⟨w.heap.size, 2, none⟩ = some (.bool co) := hX.cell 2
  have x3 : W1.cell? ⟨w.heap.size, 3, none⟩ = some (.slice a1 n1 c1) := hX.cell 3
  have x4 : W1.cell? ⟨w.heap.size, 4, none⟩ = some (.slice a2 n2 c2) := hX.cell 4
  have H1 : Hid (Below w.heap.size w W1 ∧ Blk 32 W1 (w.heap.size + 1) [.int .i64 0, .int .i64 0, .int .i64 0, .int .i64 0]) := ⟨hW1, hZ⟩
  clear hX hZ hW1
  go_wp2_with fail
  refine (HI.out _ H1.out.1).mono ?_
  rintro e w2 ⟨ha, hb⟩
  have H2 : Hid (Below w.heap.size w w2 ∧ Blk 32 w2 (w.heap.size + 1) [.int .i64 0, .int .i64 0, .int .i64 0, .int .i64 0]) := ⟨below_via H1.out.1 hb (Nat.le_refl _), below_blk hb H1.out.2.lt H1.out.2⟩
  obtain ⟨f, rfl, hf⟩ := ha.uni
  rw [HA.out]
  simp only []
  have HF : Hid ((O = none ∧ ∃ s, f = flV an s) ∨ (O ≠ none ∧ f = .nilIface)) := hf
  clear hb HI x0 x1 x2 x3 x4 H1 hf ha
  go_upto_region 2 with (fail)
  refine wp_gen (fun W => Blk 32 W w2.heap.size [.int .i64 A0, .int .i64 A1, .int .i64 A2, .int .i64 A3] ∧ Below w2.heap.size w2 W) ⟨Blk.new _ w2 _, al1 _⟩ ?_
  rintro W3 ⟨hB, hBw⟩
  have H3 : Hid (∀ W, Below W3.heap.size W3 W → (W.cell? ⟨w2.heap.size, 0, none⟩ = some (.int .i64 A0) ∧ W.cell? ⟨w2.heap.size, 1, none⟩ = some (.int .i64 A1) ∧ W.cell? ⟨w2.heap.size, 2, none⟩ = some (.int .i64 A2) ∧ W.cell? ⟨w2.heap.size, 3, none⟩ = some (.int .i64 A3)) ∧ Below w.heap.size w W ∧ Blk 32 W (w.heap.size + 1) [.int .i64 0, .int .i64 0, .int .i64 0, .int .i64 0]) := fun W h => by
    have q := below_blk h hB.lt hB
    have h2 := below_via hBw h (by have := hBw.size; omega)
    exact ⟨⟨q.cell 0, q.cell 1, q.cell 2, q.cell 3⟩, below_via H2.out.1 h2 (Nat.le_refl _), below_blk h2 H2.out.2.lt H2.out.2⟩
  clear hB hBw
  obtain ⟨⟨y0, y1, y2, y3⟩, hw3, hZ3⟩ := H3.out W3 (Below.refl _ _)
  have HT3 : Hid (Below w.heap.size w W3) := hw3
  clear hw3 hZ3
  go_region_with (go_at_call 22; refine (HTold.out _ _ (by first | exact HT3.out | exact below_drewN _ HT3.out) HF.out).mono ?_; rintro e w4 ⟨rfl, hb4⟩; obtain ⟨⟨v0, v1, v2, v3⟩, hw4, hZ4⟩ := H3.out w4 (by first | exact hb4 | exact below_via (Below.drew (Below.refl _ _)) hb4 (Nat.le_refl _)); have z0 : w4.cell? ⟨w.heap.size + 1, 0, none⟩ = some (.int .i64 0) := hZ4.cell 0; have z1 : w4.cell? ⟨w.heap.size + 1, 1, none⟩ = some (.int .i64 0) := hZ4.cell 1; have z2 : w4.cell? ⟨w.heap.size + 1, 2, none⟩ = some (.int .i64 0) := hZ4.cell 2; have z3 : w4.cell? ⟨w.heap.size + 1, 3, none⟩ = some (.int .i64 0) := hZ4.cell 3; have f0 := hZ4.frozen 0; have f1 := hZ4.frozen 1; have f2 := hZ4.frozen 2; have f3 := hZ4.frozen 3; have H4 : Hid (Below w.heap.size w w4 ∧ Blk 32 w4 (w.heap.size + 1) [.int .i64 0, .int .i64 0, .int .i64 0, .int .i64 0]) := ⟨hw4, hZ4⟩; clear hb4 hw4 hZ4)
  all_goals
    have hz1 := (((H4.out.2.set 0 (.int .i64 A0)).set 1 (.int .i64 A1)).set 2 (.int .i64 A2)).set 3 (.int .i64 A3)
    have hz2 := ((((Upd.set w4 (w.heap.size + 1) 0 (.int .i64 A0)).trans (Upd.set _ _ 1 (.int .i64 A1))).trans (Upd.set _ _ 2 (.int .i64 A2))).trans (Upd.set _ _ 3 (.int .i64 A3))).below H4.out.1 H4.out.1.size (Nat.le_succ _)
    have HZ : Hid (Blk 32 ((((w4.setCell ⟨w.heap.size + 1, 0, none⟩ (.int .i64 A0)).setCell ⟨w.heap.size + 1, 1, none⟩ (.int .i64 A1)).setCell ⟨w.heap.size + 1, 2, none⟩ (.int .i64 A2)).setCell ⟨w.heap.size + 1, 3, none⟩ (.int .i64 A3)).drew (w.heap.size + 1) [.int .i64 A0, .int .i64 A1, .int .i64 A2, .int .i64 A3] ∧ Below w.heap.size w ((((w4.setCell ⟨w.heap.size + 1, 0, none⟩ (.int .i64 A0)).setCell ⟨w.heap.size + 1, 1, none⟩ (.int .i64 A1)).setCell ⟨w.heap.size + 1, 2, none⟩ (.int .i64 A2)).setCell ⟨w.heap.size + 1, 3, none⟩ (.int .i64 A3)).drew) := ⟨below_blk (Below.drew (Below.refl _ _)) hz1.lt hz1, Below.drew hz2⟩
    clear hz1 hz2
    go_wp2
    first
      | exact bodyPost_ret (results_blk2 rfl rfl HZ.out.1 Tryz.underlying32 rfl Tryz.sizeAl rfl) rfl ⟨rfl, HZ.out.2⟩
      | (have hz1 := (((H4.out.2.set 0 (.int .i64 A0)).set 1 (.int .i64 A1)).set 2 (.int .i64 A2)).set 3 (.int .i64 A3)
         have hz2 := ((((Upd.set w4 (w.heap.size + 1) 0 (.int .i64 A0)).trans (Upd.set _ _ 1 (.int .i64 A1))).trans (Upd.set _ _ 2 (.int .i64 A2))).trans (Upd.set _ _ 3 (.int .i64 A3))).below H4.out.1 H4.out.1.size (Nat.le_succ _)
         exact bodyPost_ret (results_blk2 rfl rfl hz1 Tryz.underlying32 rfl Tryz.sizeAl rfl) rfl ⟨rfl, hz2⟩)
end Go.Proofs.YtillkhjihggcjaaGreatDoor
/-
  Alg: Key where nothing names an algorithm; the page's examples.
-/
namespace Go.Proofs.YtillkhjihggcjaaGreatDoor
open Go.RowKit
set_option maxRecDepth 20000
theorem Tryz.sizeKey : (Tryz.prog.info? 46).map (·.size) = some 5 := by kernel_rfl
def keyZ : List Value := [.int .i64 0, .slice none 0 0, .slice none 0 0, .slice none 0 0, .slice none 0 0]
theorem two_blk {w : World} (T : TypeId) (o o' : Obj) (cs : List Value) (ho : o' = .cells cs.toArray T) : Blk T ((w.alloc o).alloc o') (w.heap.size + 1) cs ∧ Below w.heap.size w ((w.alloc o).alloc o') := ⟨by
    have := Blk.new T (w.alloc o) cs
    rw [World.size_alloc] at this
    rw [ho]
    exact this, below_via (al1 _) (al1 _) (Nat.le_refl _)⟩
theorem key_put {w W : World} (h : Blk 46 W (w.heap.size + 1) keyZ) (hW : Below w.heap.size w W) (k : Int) (v1 v2 v3 v4 : Value) : Blk 46 (((((W.setCell ⟨w.heap.size + 1, 0, none⟩ (.int .i64 k)).setCell ⟨w.heap.size + 1, 1, none⟩ v1).setCell ⟨w.heap.size + 1, 2, none⟩ v2).setCell ⟨w.heap.size + 1, 3, none⟩ v3).setCell ⟨w.heap.size + 1, 4, none⟩ v4) (w.heap.size + 1) [.int .i64 k, v1, v2, v3, v4] ∧ Upd W (((((W.setCell ⟨w.heap.size + 1, 0, none⟩ (.int .i64 k)).setCell ⟨w.heap.size + 1, 1, none⟩ v1).setCell ⟨w.heap.size + 1, 2, none⟩ v2).setCell ⟨w.heap.size + 1, 3, none⟩ v3).setCell ⟨w.heap.size + 1, 4, none⟩ v4) (w.heap.size + 1) ∧ Below w.heap.size w (((((W.setCell ⟨w.heap.size + 1, 0, none⟩ (.int .i64 k)).setCell ⟨w.heap.size + 1, 1, none⟩ v1).setCell ⟨w.heap.size + 1, 2, none⟩ v2).setCell ⟨w.heap.size + 1, 3, none⟩ v3).setCell ⟨w.heap.size + 1, 4, none⟩ v4) := by
  have hU := ((((Upd.set W (w.heap.size + 1) 0 (.int .i64 k)).trans (Upd.set _ _ 1 v1)).trans (Upd.set _ _ 2 v2)).trans (Upd.set _ _ 3 v3)).trans (Upd.set _ _ 4 v4)
  exact ⟨((((h.set 0 (.int .i64 k)).set 1 v1).set 2 v2).set 3 v3).set 4 v4, hU, hU.below hW hW.size (Nat.le_succ _)⟩
theorem key_cel {w W : World} (h : Blk 46 W (w.heap.size + 1) keyZ) : (W.cell? ⟨w.heap.size + 1, 0, none⟩ = some (.int .i64 0) ∧ W.cell? ⟨w.heap.size + 1, 1, none⟩ = some (.slice none 0 0) ∧ W.cell? ⟨w.heap.size + 1, 2, none⟩ = some (.slice none 0 0) ∧ W.cell? ⟨w.heap.size + 1, 3, none⟩ = some (.slice none 0 0) ∧ W.cell? ⟨w.heap.size + 1, 4, none⟩ = some (.slice none 0 0)) ∧ W.frozen? ⟨w.heap.size + 1, 0, none⟩ = false ∧ W.frozen? ⟨w.heap.size + 1, 1, none⟩ = false ∧ W.frozen? ⟨w.heap.size + 1, 2, none⟩ = false ∧ W.frozen? ⟨w.heap.size + 1, 3, none⟩ = false ∧ W.frozen? ⟨w.heap.size + 1, 4, none⟩ = false :=
  ⟨⟨h.cell 0, h.cell 1, h.cell 2, h.cell 3, h.cell 4⟩, h.frozen 0, h.frozen 1, h.frozen 2, h.frozen 3, h.frozen 4⟩
set_option maxHeartbeats 4000000 in
/-- Where what stands first names no algorithm. -/
theorem readKey_no {w : World} {an ak : Addr} (hG : Glb w an ak) (hT : P10 w) (x : El) (a1 : Option Addr) (n1 c1 : Nat) (a2 : Option Addr) (n2 c2 : Nat) (hD : Sl .u8 w (.slice a1 n1 c1) x.d) (uD : U8s x.d) (lD : x.d.length ≤ 5000) (y z : El) (hx : rowS x = some [y, z]) (hy : idS y = none) :
    Calls Tryz.prog 30 #[.agg #[.int .i64 x.cl, .int .i64 x.tg, .bool x.co, .slice a1 n1 c1, .slice a2 n2 c2]] w fun e w' => (∃ s, e = .returned (.tuple #[.agg keyZ.toArray, flV an s])) ∧ Below w.heap.size w w' := by
  have HR : Hid (∀ W, Below w.heap.size w W → Calls Tryz.prog 55 #[.agg #[.int .i64 x.cl, .int .i64 x.tg, .bool x.co, .slice a1 n1 c1, .slice a2 n2 c2]] W fun e w' => RowAns W.heap.size w' e (some [y, z]) ∧ Below W.heap.size W w') := fun W h => by rw [← hx]; exact row_any x a1 n1 c1 _ (below_sl h hD) uD lD
  have HG : Hid (Glb w an ak ∧ P10 w) := ⟨hG, hT⟩
  have hg := rowS_good uD lD hx y (by simp)
  have HY : Hid (y.d.length ≤ 5000 ∧ U8s y.d ∧ idS y = none) := ⟨hg.1, hg.2.1, hy⟩
  have hsn := sneq
  obtain ⟨cl, tg, co, D, R⟩ := x
  simp only [] at hD HR ⊢
  clear hD uD lD hG hT hx hy hg
  go_enter Tryz.func30, Tryz.ntmps30
  go_upto_region 1 with (fail)
  refine wp_gen (fun W => Blk 24 W w.heap.size [.int .i64 cl, .int .i64 tg, .bool co, .slice a1 n1 c1, .slice a2 n2 c2] ∧ Blk 46 W (w.heap.size + 1) keyZ ∧ Below w.heap.size w W) ⟨(Blk.new _ w _).alloc _, (two_blk _ _ _ _ rfl).1, (two_blk 46 _ _ keyZ rfl).2⟩ ?_
  rintro W1 ⟨hX, hZ, hW1⟩
  have x0 : W1.cell? ⟨w.heap.size, 0, none⟩ = some (.int .i64 cl) := hX.cell 0
  have x1 : W1.cell? ⟨w.heap.size, 1, none⟩ = some (.int .i64 tg) := hX.cell 1
  have x2 : W1.cell? ⟨w.heap.size, 2, none⟩ = some (.bool co) := hX.cell 2
  have x3 : W1.cell? ⟨w.heap.size, 3, none⟩ = some (.slice a1 n1 c1) := hX.cell 3
  have x4 : W1.cell? ⟨w.heap.size, 4, none⟩ = some (.slice a2 n2 c2) := hX.cell 4
  have H1 : Hid (Below w.heap.size w W1 ∧ Blk 46 W1 (w.heap.size + 1) keyZ) := ⟨hW1, hZ⟩
  clear hX hZ hW1
  go_wp2_with fail
  refine (HR.out _ H1.out.1).mono ?_
  rintro e w2 ⟨⟨v, rfl, hv⟩, hb⟩
  have H2 : Hid (Below w.heap.size w w2 ∧ Blk 46 w2 (w.heap.size + 1) keyZ) := ⟨below_via H1.out.1 hb (Nat.le_refl _), below_blk hb H1.out.2.lt H1.out.2⟩
  obtain ⟨b, off, c, b1, m1, d1, b2, m2, d2, rfl, hc, hbl, e0, e1, e2, e3, e4, sd, sr, ht⟩ := hv.r.s.cons
  have HI : Hid (Calls Tryz.prog 46 #[.agg #[.int .i64 y.cl, .int .i64 y.tg, .bool y.co, .slice b1 m1 d1, .slice b2 m2 d2]] w2 fun e w' => IdAns an w' e none ∧ Below w2.heap.size w2 w') := by
    rw [← HY.out.2.2]; exact readId_any (HG.out.1.below H2.out.1) (HG.out.2.below H2.out.1) y b1 m1 d1 b2 m2 d2 sd HY.out.2.1 HY.out.1
  have kc : ((2 : Nat) : Int) ≤ (c : Int) := by simp at hc; omega
  obtain ⟨ycl, ytg, yco, yD, yR⟩ := y
  simp only [List.length_cons, List.length_nil] at HI e0 e1 e2 e3 e4 ⊢
  clear hb HR x0 x1 x2 x3 x4 H1 hv hc hbl sd sr ht HY
  go_wp2_with fail
  refine HI.out.mono ?_
  rintro e w3 ⟨⟨s, rfl⟩, hb3⟩
  have H3 : Hid (Below w.heap.size w w3 ∧ Blk 46 w3 (w.heap.size + 1) keyZ) := ⟨below_via H2.out.1 hb3 (Nat.le_refl _), below_blk hb3 H2.out.2.lt H2.out.2⟩
  clear hb3 e0 e1 e2 e3 e4 HI
  simp only [flV, erV]
  go_upto_region 5 with (fail)
  refine wp_gen (fun W => Below w3.heap.size w3 W) (al1 _) ?_
  intro W4 hB4
  have H4 : Hid (Below w.heap.size w W4 ∧ Blk 46 W4 (w.heap.size + 1) keyZ) := ⟨below_via H3.out.1 hB4 (Nat.le_refl _), below_blk hB4 H3.out.2.lt H3.out.2⟩
  obtain ⟨⟨z0, z1, z2, z3, z4⟩, f0, f1, f2, f3, f4⟩ := key_cel H4.out.2
  clear hB4
  go_wp2
  have hz := key_put H4.out.2 H4.out.1 0 (.slice none 0 0) (.slice none 0 0) (.slice none 0 0) (.slice none 0 0)
  exact bodyPost_ret (results_blk2 rfl rfl hz.1 Tryz.underlying46 rfl Tryz.sizeKey rfl) rfl ⟨⟨s, rfl⟩, hz.2.2⟩
end Go.Proofs.YtillkhjihggcjaaGreatDoor
/-
  Alg: Key at the page's example; the examples (live).
-/
namespace Go.Proofs.YtillkhjihggcjaaGreatDoor
open Go.RowKit
set_option maxRecDepth 20000
set_option maxHeartbeats 4000000 in
theorem Key_no {w : World} {an ak : Addr} (hG : Glb w an ak) (hT : P10 w) (x : El) (a1 : Option Addr) (n1 c1 : Nat) (a2 : Option Addr) (n2 c2 : Nat) (hD : Sl .u8 w (.slice a1 n1 c1) x.d) (uD : U8s x.d) (lD : x.d.length ≤ 5000) (y z : El) (hx : rowS x = some [y, z]) (hy : idS y = none) :
    Calls Tryz.prog 13 #[.agg #[.int .i64 x.cl, .int .i64 x.tg, .bool x.co, .slice a1 n1 c1, .slice a2 n2 c2]] w fun e w' => e = .returned (.tuple #[.agg keyZ.toArray, .int .i64 110]) ∧ Below w.heap.size w w' := by
  have HI : Hid (∀ W, Below w.heap.size w W → Calls Tryz.prog 30 #[.agg #[.int .i64 x.cl, .int .i64 x.tg, .bool x.co, .slice a1 n1 c1, .slice a2 n2 c2]] W fun e w' => (∃ s, e = .returned (.tuple #[.agg keyZ.toArray, flV an s])) ∧ Below W.heap.size W w') := fun W h => readKey_no (hG.below h) (hT.below h) x a1 n1 c1 a2 n2 c2 (below_sl h hD) uD lD y z hx hy
  have HTold : Hid (∀ W s, Below w.heap.size w W → Calls Tryz.prog 22 #[flV an s] W fun e w' => e = .returned (.int .i64 110) ∧ Below W.heap.size W w') := fun W s h => toldN (hG.below h) s
  obtain ⟨cl, tg, co, D, R⟩ := x
  simp only [] at hD HI ⊢
  clear hD uD lD hG hT hx hy
  go_enter Tryz.func13, Tryz.ntmps13
  go_upto_region 1 with (fail)
  refine wp_gen (fun W => Blk 24 W w.heap.size [.int .i64 cl, .int .i64 tg, .bool co, .slice a1 n1 c1, .slice a2 n2 c2] ∧ Blk 46 W (w.heap.size + 1) keyZ ∧ Below w.heap.size w W) ⟨(Blk.new _ w _).alloc _, (two_blk _ _ _ _ rfl).1, (two_blk 46 _ _ keyZ rfl).2⟩ ?_
  rintro W1 ⟨hX, hZ, hW1⟩
  have x0 : W1.cell? ⟨w.heap.size, 0, none⟩ = some (.int .i64 cl) := hX.cell 0
  have x1 : W1.cell? ⟨w.heap.size, 1, none⟩ = some (.int .i64 tg) := hX.cell 1
  have x2 : W1.cell? ⟨w.heap.size, 2, none⟩ = some (.bool co) := hX.cell 2
  have x3 : W1.cell? ⟨w.heap.size, 3, none⟩ = some (.slice a1 n1 c1) := hX.cell 3
  have x4 : W1.cell? ⟨w.heap.size, 4, none⟩ = some (.slice a2 n2 c2) := hX.cell 4
  have H1 : Hid (Below w.heap.size w W1 ∧ Blk 46 W1 (w.heap.size + 1) keyZ) := ⟨hW1, hZ⟩
  clear hX hZ hW1
  go_wp2_with fail
  refine (HI.out _ H1.out.1).mono ?_
  rintro e w2 ⟨⟨s, rfl⟩, hb⟩
  have H2 : Hid (Below w.heap.size w w2 ∧ Blk 46 w2 (w.heap.size + 1) keyZ) := ⟨below_via H1.out.1 hb (Nat.le_refl _), below_blk hb H1.out.2.lt H1.out.2⟩
  clear hb HI x0 x1 x2 x3 x4 H1
  simp only [keyZ, List.toArray]
  go_upto_region 2 with (fail)
  refine wp_gen (fun W => Blk 46 W w2.heap.size keyZ ∧ Below w2.heap.size w2 W) ⟨Blk.new _ w2 _, al1 _⟩ ?_
  rintro W3 ⟨hB, hBw⟩
  have H3 : Hid (∀ W, Below W3.heap.size W3 W → (W.cell? ⟨w2.heap.size, 0, none⟩ = some (.int .i64 0) ∧ W.cell? ⟨w2.heap.size, 1, none⟩ = some (.slice none 0 0) ∧ W.cell? ⟨w2.heap.size, 2, none⟩ = some (.slice none 0 0) ∧ W.cell? ⟨w2.heap.size, 3, none⟩ = some (.slice none 0 0) ∧ W.cell? ⟨w2.heap.size, 4, none⟩ = some (.slice none 0 0)) ∧ Below w.heap.size w W ∧ Blk 46 W (w.heap.size + 1) keyZ) := fun W h => by
    have q := below_blk h hB.lt hB
    have h2 := below_via hBw h (by have := hBw.size; omega)
    exact ⟨⟨q.cell 0, q.cell 1, q.cell 2, q.cell 3, q.cell 4⟩, below_via H2.out.1 h2 (Nat.le_refl _), below_blk h2 H2.out.2.lt H2.out.2⟩
  clear hB hBw
  obtain ⟨⟨y0, y1, y2, y3, y4⟩, hw3, hZ3⟩ := H3.out W3 (Below.refl _ _)
  have HT3 : Hid (Below w.heap.size w W3) := hw3
  clear hw3 hZ3
  go_region_with (go_at_call 22; refine (HTold.out _ _ (by first | exact HT3.out | exact below_drewN _ HT3.out)).mono ?_; rintro e w4 ⟨rfl, hb4⟩; obtain ⟨⟨v0, v1, v2, v3, v4⟩, hw4, hZ4⟩ := H3.out w4 (by first | exact hb4 | exact below_via (Below.drew (Below.refl _ _)) hb4 (Nat.le_refl _)); obtain ⟨⟨z0, z1, z2, z3, z4⟩, f0, f1, f2, f3, f4⟩ := key_cel hZ4; have H4 : Hid (Below w.heap.size w w4 ∧ Blk 46 w4 (w.heap.size + 1) keyZ) := ⟨hw4, hZ4⟩; clear hb4 hw4 hZ4)
  all_goals
    have hz := key_put H4.out.2 H4.out.1 0 (.slice none 0 0) (.slice none 0 0) (.slice none 0 0) (.slice none 0 0)
    have HZ : Hid (Blk 46 (((((w4.setCell ⟨w.heap.size + 1, 0, none⟩ (.int .i64 0)).setCell ⟨w.heap.size + 1, 1, none⟩ (.slice none 0 0)).setCell ⟨w.heap.size + 1, 2, none⟩ (.slice none 0 0)).setCell ⟨w.heap.size + 1, 3, none⟩ (.slice none 0 0)).setCell ⟨w.heap.size + 1, 4, none⟩ (.slice none 0 0)).drew (w.heap.size + 1) keyZ ∧ Below w.heap.size w (((((w4.setCell ⟨w.heap.size + 1, 0, none⟩ (.int .i64 0)).setCell ⟨w.heap.size + 1, 1, none⟩ (.slice none 0 0)).setCell ⟨w.heap.size + 1, 2, none⟩ (.slice none 0 0)).setCell ⟨w.heap.size + 1, 3, none⟩ (.slice none 0 0)).setCell ⟨w.heap.size + 1, 4, none⟩ (.slice none 0 0)).drew) := ⟨below_blk (Below.drew (Below.refl _ _)) hz.1.lt hz.1, Below.drew hz.2.2⟩
    clear hz
    go_wp2
    first
      | exact bodyPost_ret (results_blk2 rfl rfl HZ.out.1 Tryz.underlying46 rfl Tryz.sizeKey rfl) rfl ⟨rfl, HZ.out.2⟩
      | (have hz := key_put H4.out.2 H4.out.1 0 (.slice none 0 0) (.slice none 0 0) (.slice none 0 0) (.slice none 0 0)
         exact bodyPost_ret (results_blk2 rfl rfl hz.1 Tryz.underlying46 rfl Tryz.sizeKey rfl) rfl ⟨rfl, hz.2.2⟩)
theorem num11_any {w : World} (e : Int) : Calls Tryz.prog 11 #[.int .i64 e] w fun r w' => r = .returned (.int .i64 e) ∧ w = w' := by
  go_enter Tryz.func11, Tryz.ntmps11
  go_wp2
  go_ret
  exact ⟨rfl, rfl⟩
def exX : List Int := [48, 9, 6, 5, 43, 14, 3, 2, 26, 5, 0]
def exXe : El := ⟨0, 16, true, [6, 5, 43, 14, 3, 2, 26, 5, 0], [48, 9, 6, 5, 43, 14, 3, 2, 26, 5, 0]⟩
def exY : List Int := [48, 13, 6, 9, 42, 134, 72, 134, 247, 13, 1, 1, 11, 5, 0]
def exYe : El := ⟨0, 16, true, [6, 9, 42, 134, 72, 134, 247, 13, 1, 1, 11, 5, 0], [48, 13, 6, 9, 42, 134, 72, 134, 247, 13, 1, 1, 11, 5, 0]⟩
def exA : El := ⟨0, 6, false, [43, 14, 3, 2, 26], [6, 5, 43, 14, 3, 2, 26]⟩
def exB : El := ⟨0, 5, false, [], [5, 0]⟩
theorem ex1 : oneS (splitS exX) = (exXe, 0) := by rfl
theorem ex2 : oneS (splitS exY) = (exYe, 0) := by rfl
theorem ex3 : rowS exXe = some [exA, exB] := by rfl
theorem ex4 : idS exA = none := by rfl
theorem ex5 : digS exXe = 1 := by decide +kernel
theorem ex6 : (sgV (sgnS exYe)).k = 1 ∧ (sgV (sgnS exYe)).d = 2 ∧ (sgV (sgnS exYe)).m = 0 ∧ (sgV (sgnS exYe)).s = 0 ∧ sgE (sgnS exYe) = 0 := by decide +kernel
theorem ex7 : U8s exX ∧ U8s exY ∧ U8s exXe.d ∧ U8s exYe.d := by
  refine ⟨?_, ?_, ?_, ?_⟩ <;> (intro x hx; unfold U8; simp [exX, exY, exXe, exYe] at hx; omega)
end Go.Proofs.YtillkhjihggcjaaGreatDoor
/-
  Alg: the page's examples, walked.
-/
namespace Go.Proofs.YtillkhjihggcjaaGreatDoor
open Go.RowKit
set_option maxRecDepth 20000
set_option maxHeartbeats 4000000 in
theorem live11_any {w : World} {an ak : Addr} (hG : Glb w an ak) (hT : P10 w) : Calls Tryz.prog 6 #[] w fun e w' => e = .returned (.bool true) ∧ Below w.heap.size w w' := by
  have HG : Hid (Glb w an ak ∧ P10 w) := ⟨hG, hT⟩
  clear hG hT
  go_enter Tryz.func6, Tryz.ntmps6
  go_wp2_with fail
  refine (ROne_any (.slice (some ⟨w.heap.size, 0, none⟩) 11 11) exX (Arr.sl (S := exX) (arr_nw rfl rfl)) ex7.1 (by decide)).mono ?_
  rintro e w1 ⟨ho, hb1⟩
  rw [ex1] at ho
  obtain ⟨b1, m1, d1, b2, m2, d2, rfl, hd, hr⟩ := ho
  have H1 : Hid (Below w.heap.size w w1 ∧ Sl .u8 w1 (.slice b1 m1 d1) exXe.d) := ⟨below_via (al1 _) hb1 (Nat.le_refl _), hd.sl⟩
  clear hb1 hd hr
  simp only [exXe]
  go_upto_region 2 with (fail)
  refine wp_gen (fun W => Blk 24 W w1.heap.size [.int .i64 0, .int .i64 16, .bool true, .slice b1 m1 d1, .slice b2 m2 d2] ∧ Below w1.heap.size w1 W) ⟨Blk.new _ w1 _, al1 _⟩ ?_
  rintro W2 ⟨hB, hBw⟩
  have H2 : Hid (Below w1.heap.size w1 W2 ∧ Below w.heap.size w W2 ∧ ∀ W, Below W2.heap.size W2 W → W.cell? ⟨w1.heap.size, 0, none⟩ = some (.int .i64 0) ∧ W.cell? ⟨w1.heap.size, 1, none⟩ = some (.int .i64 16) ∧ W.cell? ⟨w1.heap.size, 2, none⟩ = some (.bool true) ∧ W.cell? ⟨w1.heap.size, 3, none⟩ = some (.slice b1 m1 d1) ∧ W.cell? ⟨w1.heap.size, 4, none⟩ = some (.slice b2 m2 d2)) := ⟨hBw, below_via H1.out.1 hBw (Nat.le_refl _), fun W h => by
    have q := below_blk h hB.lt hB
    exact ⟨q.cell 0, q.cell 1, q.cell 2, q.cell 3, q.cell 4⟩⟩
  clear hB hBw
  obtain ⟨x0, x1, x2, x3, x4⟩ := H2.out.2.2 W2 (Below.refl _ _)
  have HD : Hid (Calls Tryz.prog 7 #[.agg #[.int .i64 0, .int .i64 16, .bool true, .slice b1 m1 d1, .slice b2 m2 d2]] W2 fun e w' => e = .returned (.tuple #[.int .i64 1, .int .i64 0]) ∧ Below W2.heap.size W2 w') := by
    have h := Digest_any (w := W2) (HG.out.1.below H2.out.2.1) (HG.out.2.below H2.out.2.1) exXe b1 m1 d1 b2 m2 d2 (below_sl H2.out.1 H1.out.2) ex7.2.2.1 (by decide)
    rw [ex5] at h
    exact h
  go_wp2_with fail
  refine HD.out.mono ?_
  rintro e w3 ⟨rfl, hb3⟩
  have H3 : Hid (Below W2.heap.size W2 w3 ∧ Below w1.heap.size w1 w3 ∧ Below w.heap.size w w3) := ⟨hb3, below_via H2.out.1 hb3 (Nat.le_refl _), below_via H2.out.2.1 hb3 (Nat.le_refl _)⟩
  clear hb3 x0 x1 x2 x3 x4 HD
  go_wp2_with fail
  refine (ROne_any (.slice (some ⟨w3.heap.size, 0, none⟩) 15 15) exY (Arr.sl (S := exY) (arr_nw rfl rfl)) ex7.2.1 (by decide)).mono ?_
  rintro e w4 ⟨ho, hb4⟩
  rw [ex2] at ho
  obtain ⟨b3, m3, d3, b4, m4, d4, rfl, hd, hr⟩ := ho
  have hb34 := below_via (al1 _) hb4 (Nat.le_refl _)
  have H4 : Hid (Below W2.heap.size W2 w4 ∧ Below w1.heap.size w1 w4 ∧ Below w.heap.size w w4 ∧ Sl .u8 w4 (.slice b3 m3 d3) exYe.d) := ⟨below_via H3.out.1 hb34 (Nat.le_refl _), below_via H3.out.2.1 hb34 (Nat.le_refl _), below_via H3.out.2.2 hb34 (Nat.le_refl _), hd.sl⟩
  clear hb4 hd hr hb34
  simp only [exYe]
  go_upto_region 4 with (fail)
  refine wp_gen (fun W => Blk 24 W w4.heap.size [.int .i64 0, .int .i64 16, .bool true, .slice b3 m3 d3, .slice b4 m4 d4] ∧ Below w4.heap.size w4 W) ⟨Blk.new _ w4 _, al1 _⟩ ?_
  rintro W5 ⟨hB, hBw⟩
  have H5 : Hid (Below W2.heap.size W2 W5 ∧ Below w1.heap.size w1 W5 ∧ Below w.heap.size w W5 ∧ Sl .u8 W5 (.slice b3 m3 d3) exYe.d) := ⟨below_via H4.out.1 hBw (Nat.le_refl _), below_via H4.out.2.1 hBw (Nat.le_refl _), below_via H4.out.2.2.1 hBw (Nat.le_refl _), below_sl hBw H4.out.2.2.2⟩
  have x0 : W5.cell? ⟨w4.heap.size, 0, none⟩ = some (.int .i64 0) := hB.cell 0
  have x1 : W5.cell? ⟨w4.heap.size, 1, none⟩ = some (.int .i64 16) := hB.cell 1
  have x2 : W5.cell? ⟨w4.heap.size, 2, none⟩ = some (.bool true) := hB.cell 2
  have x3 : W5.cell? ⟨w4.heap.size, 3, none⟩ = some (.slice b3 m3 d3) := hB.cell 3
  have x4 : W5.cell? ⟨w4.heap.size, 4, none⟩ = some (.slice b4 m4 d4) := hB.cell 4
  clear hB hBw
  have HS : Hid (Calls Tryz.prog 9 #[.agg #[.int .i64 0, .int .i64 16, .bool true, .slice b3 m3 d3, .slice b4 m4 d4]] W5 fun e w' => e = .returned (.tuple #[.agg #[.int .i64 1, .int .i64 2, .int .i64 0, .int .i64 0], .int .i64 0]) ∧ Below W5.heap.size W5 w') := by
    have h := Sign_any (w := W5) (HG.out.1.below H5.out.2.2.1) (HG.out.2.below H5.out.2.2.1) exYe b3 m3 d3 b4 m4 d4 H5.out.2.2.2 ex7.2.2.2 (by decide)
    rw [ex6.1, ex6.2.1, ex6.2.2.1, ex6.2.2.2.1, ex6.2.2.2.2] at h
    exact h
  go_wp2_with fail
  refine HS.out.mono ?_
  rintro e w6 ⟨rfl, hb6⟩
  have H6 : Hid (Below W2.heap.size W2 w6 ∧ Below w1.heap.size w1 w6 ∧ Below w.heap.size w w6) := ⟨below_via H5.out.1 hb6 (Nat.le_refl _), below_via H5.out.2.1 hb6 (Nat.le_refl _), below_via H5.out.2.2.1 hb6 (Nat.le_refl _)⟩
  clear hb6 x0 x1 x2 x3 x4 HS
  go_upto_region 5 with (fail)
  refine wp_gen (fun W => Blk 32 W w6.heap.size [.int .i64 1, .int .i64 2, .int .i64 0, .int .i64 0] ∧ Below w6.heap.size w6 W) ⟨Blk.new _ w6 _, al1 _⟩ ?_
  rintro W7 ⟨hB, hBw⟩
  have H7 : Hid (Below W2.heap.size W2 W7 ∧ Below w1.heap.size w1 W7 ∧ Below w.heap.size w W7 ∧ ∀ W, Below W7.heap.size W7 W → W.cell? ⟨w6.heap.size, 0, none⟩ = some (.int .i64 1) ∧ W.cell? ⟨w6.heap.size, 1, none⟩ = some (.int .i64 2) ∧ W.cell? ⟨w6.heap.size, 2, none⟩ = some (.int .i64 0) ∧ W.cell? ⟨w6.heap.size, 3, none⟩ = some (.int .i64 0)) := ⟨below_via H6.out.1 hBw (Nat.le_refl _), below_via H6.out.2.1 hBw (Nat.le_refl _), below_via H6.out.2.2 hBw (Nat.le_refl _), fun W h => by
    have q := below_blk h hB.lt hB
    exact ⟨q.cell 0, q.cell 1, q.cell 2, q.cell 3⟩⟩
  clear hB hBw
  obtain ⟨x0, x1, x2, x3, x4⟩ := H2.out.2.2 W7 H7.out.1
  have HK : Hid (Calls Tryz.prog 13 #[.agg #[.int .i64 0, .int .i64 16, .bool true, .slice b1 m1 d1, .slice b2 m2 d2]] W7 fun e w' => e = .returned (.tuple #[.agg keyZ.toArray, .int .i64 110]) ∧ Below W7.heap.size W7 w') :=
    Key_no (w := W7) (HG.out.1.below H7.out.2.2.1) (HG.out.2.below H7.out.2.2.1) exXe b1 m1 d1 b2 m2 d2 (below_sl H7.out.2.1 H1.out.2) ex7.2.2.1 (by decide) exA exB ex3 ex4
  go_wp2_with fail
  refine HK.out.mono ?_
  rintro e w8 ⟨rfl, hb8⟩
  have H8 : Hid (Below w.heap.size w w8 ∧ Below W7.heap.size W7 w8) := ⟨below_via H7.out.2.2.1 hb8 (Nat.le_refl _), hb8⟩
  clear hb8 x0 x1 x2 x3 x4 HK
  simp only [keyZ, List.toArray]
  go_upto_region 6 with (fail)
  refine wp_gen (fun W => Below w8.heap.size w8 W) (al1 _) ?_
  intro W9 hB9
  have H9 : Hid (Below w.heap.size w W9) := below_via H8.out.1 hB9 (Nat.le_refl _)
  obtain ⟨y0, y1, y2, y3⟩ := H7.out.2.2.2 W9 (below_via H8.out.2 hB9 (Nat.le_refl _))
  clear hB9
  go_wp2_with (go_at_call 11; refine (num11_any _).mono ?_; rintro e w' ⟨rfl, rfl⟩)
  go_ret
  exact ⟨rfl, H9.out⟩
end Go.Proofs.YtillkhjihggcjaaGreatDoor
/-
  Alg: the reference's row, Is, read, void.
-/
namespace Go.Proofs.YtillkhjihggcjaaGreatDoor
open Go.RowKit
set_option maxRecDepth 20000
theorem RIs_any {w : World} (x : El) (d r : Value) (t : Int) : Calls Tryz.prog 32 #[.agg #[.int .i64 x.cl, .int .i64 x.tg, .bool x.co, d, r], .int .i64 t] w fun e w' => e = .returned (.bool (isP x t)) ∧ Below w.heap.size w w' := by
  obtain ⟨cl, tg, co, xd, xr⟩ := x
  unfold isP
  simp only []
  by_cases h1 : cl = 0
  · by_cases h2 : tg = t
    · subst h1 h2
      cases co <;> (go_enter Tryz.func32, Tryz.ntmps32; go_wp2; go_ret; exact ⟨by simp, al1 _⟩)
    · have d2 : (tg == t) = false := by simpa using h2
      subst h1
      go_enter Tryz.func32, Tryz.ntmps32; go_wp2; go_ret; exact ⟨by simp [d2], al1 _⟩
  · have d1 : (cl == 0) = false := by simpa using h1
    go_enter Tryz.func32, Tryz.ntmps32; go_wp2; go_ret; exact ⟨by simp [d1], al1 _⟩
def RowAnsR (B : Nat) (w : World) (e : Ending) : Option (List El) → Prop
  | none => ∃ a n c, e = .returned (.tuple #[.slice a n c, .bool false])
  | some L => ∃ v, e = .returned (.tuple #[v, .bool true]) ∧ TlvR B w v L
set_option maxHeartbeats 1000000 in
theorem Rrow_any {w : World} (x : El) (a1 : Option Addr) (n1 c1 : Nat) (r : Value) (hD : Sl .u8 w (.slice a1 n1 c1) x.d) (uD : U8s x.d) (lD : x.d.length ≤ 5000) :
    Calls Tryz.prog 31 #[.agg #[.int .i64 x.cl, .int .i64 x.tg, .bool x.co, .slice a1 n1 c1, r]] w fun e w' => RowAnsR w.heap.size w' e (rowS x) ∧ Below w.heap.size w w' := by
  obtain ⟨cl, tg, co, D, R⟩ := x
  simp only [] at hD uD lD ⊢
  obtain ⟨O, hO⟩ : ∃ O, rowS ⟨cl, tg, co, D, R⟩ = O := ⟨_, rfl⟩
  rw [hO]
  by_cases hy : (cl == 0 && tg == 16 && co) = true
  · have HR : Hid (O = rowO (splitS D)) := by show _ = _; rw [← hO]; unfold rowS; rw [if_pos hy]
    obtain ⟨h1, h2, h3⟩ : cl = 0 ∧ tg = 16 ∧ co = true := by simp at hy; exact ⟨hy.1.1, hy.1.2, hy.2⟩
    subst h1 h2 h3
    have HS : Hid (∀ W, Below w.heap.size w W → Calls Tryz.prog 41 #[.slice a1 n1 c1] W fun e w' => (∃ v, e = .returned (.tuple #[v, .int .i64 (spE (splitS D)), .int .i64 (spA D.length (splitS D))]) ∧ TlvR W.heap.size w' v (spL (splitS D))) ∧ Below W.heap.size W w') := fun W h => (RSplit_any _ D (below_sl h hD) uD (by omega)).mono fun e w' ⟨ha, hb⟩ => ⟨ha.uni, hb⟩
    have HE : Hid (∀ er at', splitS D = .inl (er, at') → er ≠ 0) := fun er at' h => splitS_err uD h
    clear hD uD lD hy hO
    go_enter Tryz.func31, Tryz.ntmps31
    go_wp2_with fail
    refine (HS.out _ (al1 _)).mono ?_
    rintro e w1 ⟨⟨v, rfl, hv⟩, hb⟩
    obtain ⟨av, cv, hvv⟩ : ∃ a c, v = .slice a (spL (splitS D)).length c := by
      obtain ⟨Y, h1, h2, _⟩ := hv; obtain ⟨a, c, h3⟩ := h2.ne; rw [← h1, List.length_map]; exact ⟨a, c, h3⟩
    obtain ⟨nv, hnv⟩ : ∃ n, (spL (splitS D)).length = n := ⟨_, rfl⟩
    rw [hnv] at hvv
    subst hvv
    have H1 : Hid (Below w.heap.size w w1 ∧ TlvR w.heap.size w1 (.slice av nv cv) (spL (splitS D))) := ⟨below_via (al1 _) hb (Nat.le_refl _), hv.mono (by simp)⟩
    clear hv hb hnv
    cases hS : splitS D with
    | inl pq =>
      obtain ⟨er, at'⟩ := pq
      have h0 := HE.out er at' hS
      have h00 : (er == 0) = false := by simpa using h0
      have HO : Hid (O = none) := by show _ = _; rw [HR.out, hS]; rfl
      clear HS HE HR
      rw [show spE (.inl (er, at')) = er from rfl]
      obtain ⟨z, hz⟩ : ∃ z, (spA D.length (.inl (er, at')) : Nat) = z := ⟨_, rfl⟩
      rw [hz]
      clear hz hS
      go_wp2
      go_ret2
      rw [HO.out]
      exact ⟨⟨av, nv, cv, rfl⟩, H1.out.1⟩
    | inr L =>
      have H2 : Hid (Below w.heap.size w w1 ∧ TlvR w.heap.size w1 (.slice av nv cv) L) := ⟨H1.out.1, by have := H1.out.2; rw [hS] at this; exact this⟩
      have HO : Hid (O = some L) := by show _ = _; rw [HR.out, hS]; rfl
      clear HS HE HR H1
      rw [show spE (.inr L) = 0 from rfl]
      obtain ⟨z, hz⟩ : ∃ z, (spA D.length (.inr L) : Nat) = z := ⟨_, rfl⟩
      rw [hz]
      clear hz hS
      go_wp2
      go_ret2
      rw [HO.out]
      exact ⟨⟨_, rfl, H2.out.2⟩, H2.out.1⟩
  · obtain rfl : O = none := by rw [← hO]; unfold rowS; rw [if_neg hy]
    clear hD uD lD hO
    by_cases h1 : cl = 0
    · subst h1
      by_cases h2 : tg = 16
      · subst h2
        have h3 : co = false := by simpa using hy
        subst h3
        clear hy
        go_enter Tryz.func31, Tryz.ntmps31; go_wp2; go_ret2; exact ⟨⟨none, 0, 0, rfl⟩, al1 _⟩
      · have d2 : (tg != 16) = true := by simpa using h2
        clear hy
        go_enter Tryz.func31, Tryz.ntmps31; go_wp2; go_ret2; exact ⟨⟨none, 0, 0, rfl⟩, al1 _⟩
    · have d1 : (cl != 0) = true := by simpa using h1
      clear hy
      go_enter Tryz.func31, Tryz.ntmps31; go_wp2; go_ret2; exact ⟨⟨none, 0, 0, rfl⟩, al1 _⟩
theorem TlvS.len {w : World} {v : Value} {L : List El} (h : TlvS w v L) : ∃ a c, v = .slice a L.length c := by
  obtain ⟨a, c, _, h, _⟩ := h
  exact ⟨a, c, h⟩
def RdAns (w : World) (e : Ending) : Option (ByteArray × List El) → Prop
  | none => ∃ s a n c, e = .returned (.tuple #[.string s, .slice a n c, .bool false])
  | some (S, rest) => ∃ a n c, e = .returned (.tuple #[.string S, .slice a n c, .bool true]) ∧ rest.length = n ∧ TlvS w (.slice a n c) rest
set_option maxHeartbeats 4000000 in
theorem Rread_any {w : World} (x : El) (a1 : Option Addr) (n1 c1 : Nat) (a2 : Option Addr) (n2 c2 : Nat) (hD : Sl .u8 w (.slice a1 n1 c1) x.d) (uD : U8s x.d) (lD : x.d.length ≤ 5000) :
    Calls Tryz.prog 23 #[.agg #[.int .i64 x.cl, .int .i64 x.tg, .bool x.co, .slice a1 n1 c1, .slice a2 n2 c2]] w fun e w' => RdAns w' e (idS x) ∧ Below w.heap.size w w' := by
  have HR : Hid (∀ W, Below w.heap.size w W → Calls Tryz.prog 31 #[.agg #[.int .i64 x.cl, .int .i64 x.tg, .bool x.co, .slice a1 n1 c1, .slice a2 n2 c2]] W fun e w' => RowAnsR W.heap.size w' e (rowS x) ∧ Below W.heap.size W w') := fun W h => Rrow_any x a1 n1 c1 _ (below_sl h hD) uD lD
  obtain ⟨O, hO⟩ : ∃ O, idS x = O := ⟨_, rfl⟩
  obtain ⟨RO, hRO⟩ : ∃ R, rowS x = R := ⟨_, rfl⟩
  rw [hO]
  rw [hRO] at HR
  have HQ : Hid (O = idO RO) := by show _ = _; rw [← hO, ← hRO]; rfl
  have HL : Hid (∀ L, RO = some L → ∀ y ∈ L, y.d.length ≤ 5000 ∧ U8s y.d ∧ 0 ≤ y.tg) := fun L h => rowS_good uD lD (hRO.trans h)
  obtain ⟨cl, tg, co, D, R⟩ := x
  simp only [] at hD HR ⊢
  clear hD uD lD hO hRO
  go_enter Tryz.func23, Tryz.ntmps23
  go_wp2_with fail
  refine (HR.out _ (al1 _)).mono ?_
  rintro e w1 ⟨ha, hb⟩
  have H1 : Hid (Below w.heap.size w w1) := below_via (al1 _) hb (Nat.le_refl _)
  clear hb HR
  cases RO with
  | none =>
    obtain ⟨a, n, c, rfl⟩ := ha
    have HO : Hid (O = none) := HQ.out
    clear HQ HL
    go_wp2
    go_ret3
    rw [HO.out]
    exact ⟨⟨_, _, _, _, rfl⟩, H1.out⟩
  | some L =>
    obtain ⟨v, rfl, hv⟩ := ha
    have hv := hv.s
    obtain ⟨av, cv, rfl⟩ := hv.len
    rcases L with _ | ⟨y, rest⟩
    · have HO : Hid (O = none) := HQ.out
      clear HQ HL hv
      simp only [List.length_nil]
      go_wp2
      go_ret3
      rw [HO.out]
      exact ⟨⟨_, _, _, _, rfl⟩, H1.out⟩
    by_cases hr1 : rest.length ≤ 1
    · replace HQ : Hid (O = idC rest (oidO y)) := by
        show _ = _
        rw [HQ.out]
        rcases rest with _ | ⟨z, _ | ⟨z', rest⟩⟩
        · rfl
        · rfl
        · simp at hr1
      have hy := HL.out _ rfl y (by simp)
      obtain ⟨b, off, c, b1, m1, d1', b2, m2, d2', hvv, hc, hbl, e0, e1, e2, e3, e4, sd, sr, ht⟩ := hv.cons
      simp only [Value.slice.injEq] at hvv
      obtain ⟨rfl, hn, rfl⟩ := hvv
      obtain ⟨k, hk⟩ : ∃ k, rest.length = k := ⟨_, rfl⟩
      rw [hk] at hr1 ht hc hn
      rw [hn]
      have k1 : ¬ ((k + 1 : Nat) : Int) < 1 := by omega
      have k2 : ¬ (2 : Int) < ((k + 1 : Nat) : Int) := by omega
      have HP : Hid (∀ W : World, Calls Tryz.prog 32 #[.agg #[.int .i64 y.cl, .int .i64 y.tg, .bool y.co, .slice b1 m1 d1', .slice b2 m2 d2'], .int .i64 6] W fun e w' => e = .returned (.bool (isP y 6)) ∧ Below W.heap.size W w') := fun W => RIs_any y _ _ 6
      have HO : Hid (∀ W, Below w1.heap.size w1 W → Calls Tryz.prog 36 #[.slice b1 m1 d1'] W fun e w' => e = .returned (.tuple #[.string (strOfNums (oidF y.d).1), .int .i64 (oidF y.d).2]) ∧ Below W.heap.size W w') := fun W h => (ROid_any _ y.d (below_sl h sd) hy.2.1 hy.1).mono fun e w' ⟨⟨s, er, h1, h2⟩, hb⟩ => ⟨by obtain ⟨e1, e2⟩ := oidF_of h1; rw [h2, e1, e2], hb⟩
      have HK : Hid (rest.length = k ∧ b < w1.heap.size ∧ TlvS w1 (.slice (some ⟨b, off + 5, none⟩) k (cv - 1)) rest) := ⟨hk, hbl, ht⟩
      replace HQ : Hid (O = idC rest (if isP y 6 = true ∧ (oidF y.d).2 = 0 then some (strOfNums (oidF y.d).1) else none)) := HQ.out
      obtain ⟨ycl, ytg, yco, yD, yR⟩ := y
      simp only [] at HO HQ HP e0 e1 e2 e3 e4
      obtain ⟨p, hp⟩ : ∃ p, isP ⟨ycl, ytg, yco, yD, yR⟩ 6 = p := ⟨_, rfl⟩
      rw [hp] at HP HQ
      obtain ⟨S, hS⟩ : ∃ S, strOfNums (oidF yD).1 = S := ⟨_, rfl⟩
      obtain ⟨er, her⟩ : ∃ er, (oidF yD).2 = er := ⟨_, rfl⟩
      rw [hS, her] at HO HQ
      have kc : ((k + 1 : Nat) : Int) ≤ (cv : Int) := by omega
      clear hy hv hn hk ht sd sr HL hp hS her hc
      go_wp2_with fail
      refine (HP.out _).mono ?_
      rintro e w2 ⟨rfl, hb2⟩
      have H2 : Hid (Below w1.heap.size w1 w2 ∧ Below w.heap.size w w2) := ⟨hb2, below_via H1.out hb2 (Nat.le_refl _)⟩
      have g3 : w2.cell? ⟨b, off + 3, none⟩ = some (.slice b1 m1 d1') := (hb2.cell hbl).trans e3
      clear hb2 e0 e1 e2 e3 e4
      cases p with
      | false =>
        have HN : Hid (O = none) := by show _ = _; rw [HQ.out]; simp [idC]
        clear HQ HP HO
        go_wp2
        go_ret3
        rw [HN.out]
        exact ⟨⟨_, _, _, _, rfl⟩, H2.out.2⟩
      | true =>
        go_wp2_with fail
        refine (HO.out _ H2.out.1).mono ?_
        rintro e w3 ⟨rfl, hb3⟩
        have H3 : Hid (Below w.heap.size w w3 ∧ TlvS w3 (.slice (some ⟨b, off + 5, none⟩) k (cv - 1)) rest ∧ rest.length = k) := ⟨below_via H2.out.2 hb3 (Nat.le_refl _), (HK.out.2.2.below H2.out.1).below hb3, HK.out.1⟩
        clear hb3 g3 HP HO hbl HK
        by_cases h0 : er = 0
        · subst h0
          have HN : Hid (O = some (S, rest)) := by show _ = _; rw [HQ.out]; simp [idC]
          clear HQ
          by_cases hcv : cv = 1
          · subst hcv
            obtain rfl : k = 0 := by omega
            have hr0 : rest = [] := List.eq_nil_of_length_eq_zero H3.out.2.2
            go_upto_region 5 with (fail)
            go_region
            go_wp2
            go_ret3
            rw [HN.out]
            exact ⟨⟨_, _, _, rfl, H3.out.2.2, by rw [hr0]; exact TlvS.nil _ _ _⟩, below_drewN _ H3.out.1⟩
          · have hcz : ¬ cv - 1 = 0 := by omega
            go_upto_region 5 with (fail)
            go_region
            go_wp2
            go_ret3
            rw [HN.out]
            exact ⟨⟨_, _, _, rfl, H3.out.2.2, H3.out.2.1.below (Below.drew (Below.refl _ _))⟩, below_drewN _ H3.out.1⟩
        · have h00 : (er == 0) = false := by simpa using h0
          have HN : Hid (O = none) := by show _ = _; rw [HQ.out]; simp [idC, h0]
          clear HQ h0
          by_cases hcv : cv = 1
          · subst hcv
            obtain rfl : k = 0 := by omega
            go_upto_region 5 with (fail)
            go_region
            go_wp2
            go_ret3
            rw [HN.out]
            exact ⟨⟨_, _, _, _, rfl⟩, below_drewN _ H3.out.1⟩
          · have hcz : ¬ cv - 1 = 0 := by omega
            go_upto_region 5 with (fail)
            go_region
            go_wp2
            go_ret3
            rw [HN.out]
            exact ⟨⟨_, _, _, _, rfl⟩, below_drewN _ H3.out.1⟩
    · obtain ⟨k, hk⟩ : ∃ k, (y :: rest).length = k := ⟨_, rfl⟩
      have HO : Hid (O = none) := by
        show _ = _
        rw [HQ.out]
        rcases rest with _ | ⟨z, _ | ⟨z', rest⟩⟩
        · simp at hr1
        · simp at hr1
        · rfl
      rw [hk]
      have k1 : ¬ (k : Int) < 1 := by simp at hk; omega
      have k2 : (2 : Int) < (k : Int) := by simp at hk; omega
      clear HQ HL hv hk
      go_wp2
      go_ret3
      rw [HO.out]
      exact ⟨⟨_, _, _, _, rfl⟩, H1.out⟩
end Go.Proofs.YtillkhjihggcjaaGreatDoor
