/-
  Der: the same rows of elements.
-/
import Derived.Test.YtndcpjnfdgojkaaDoorE50a
import Derived.BigRegion
namespace Go.Proofs.YtndcpjnfdgojkaaDoor
open Go.RowKit
theorem tlvCells_get : ∀ (Y : List Tc) (i q : Nat), q < 5 → (tlvCells Y)[i * 5 + q]? = (Y[i]?).bind fun y => (cell5 y)[q]?
  | [], i, q, _ => by simp [tlvCells]
  | y :: Y, 0, q, hq => by
    have hl : (cell5 y).length = 5 := rfl
    simp only [tlvCells, List.flatMap_cons, Nat.zero_mul, Nat.zero_add, List.getElem?_cons_zero, Option.bind_some]
    rw [List.getElem?_append_left (by omega)]
  | y :: Y, i + 1, q, hq => by
    have hl : (cell5 y).length = 5 := rfl
    have := tlvCells_get Y i q hq
    simp only [tlvCells, List.flatMap_cons, List.getElem?_cons_succ] at this ⊢
    rw [List.getElem?_append_right (by omega), hl, show (i + 1) * 5 + q - 5 = i * 5 + q by omega, this]
/-- A slice that reads elements, with the values by name. -/
def TlvS (w : World) (v : Value) (L : List El) : Prop :=
  ∃ a c Y, v = .slice a L.length c ∧ L.length ≤ c ∧ Y.map (·.1) = L ∧ (L = [] ∨ ∃ b off, a = some ⟨b, off, none⟩ ∧ b < w.heap.size ∧ ∀ i, i < L.length * 5 → w.cell? ⟨b, off + i, none⟩ = (tlvCells Y)[i]?) ∧ ∀ y ∈ Y, Sl .u8 w y.2.1 y.1.d ∧ Sl .u8 w y.2.2 y.1.r
theorem TlvR.s {B : Nat} {w : World} {v : Value} {L : List El} (h : TlvR B w v L) : TlvS w v L := by
  obtain ⟨Y, h1, h2, h3⟩ := h
  have hl : Y.length = L.length := by rw [← h1, List.length_map]
  rw [hl] at h2
  obtain ⟨h0, h2⟩ := h2
  rcases h2 with ⟨rfl, h2⟩ | ⟨b, S, c, rfl, hB, hA, hS, hc, ht, hm⟩
  · have : L = [] := List.eq_nil_of_length_eq_zero h2
    subst this
    exact ⟨none, 0, Y, rfl, Nat.le_refl _, h1, .inl rfl, fun y hy => ⟨(h3 y hy).1.sl, (h3 y hy).2.sl⟩⟩
  · refine ⟨_, _, Y, rfl, hc, h1, .inr ⟨b, 0, rfl, hA.lt, fun i hi => ?_⟩, fun y hy => ⟨(h3 y hy).1.sl, (h3 y hy).2.sl⟩⟩
    rw [Nat.zero_add, hA.cell i, ← ht, List.getElem?_take, if_pos hi]
theorem TlvS.below {w w' : World} {v : Value} {L : List El} (h : TlvS w v L) (hb : Below w.heap.size w w') : TlvS w' v L := by
  obtain ⟨a, c, Y, rfl, h1, h2, h3, h4⟩ := h
  refine ⟨a, c, Y, rfl, h1, h2, ?_, fun y hy => ⟨below_sl hb (h4 y hy).1, below_sl hb (h4 y hy).2⟩⟩
  rcases h3 with h3 | ⟨b, off, rfl, hbl, hr⟩
  · exact .inl h3
  · exact .inr ⟨b, off, rfl, Nat.lt_of_lt_of_le hbl hb.size, fun i hi => (hb.cell (p := ⟨b, off + i, none⟩) hbl).trans (hr i hi)⟩
/-- The five cells of element i. -/
theorem cells_at {w : World} {b off : Nat} {Y : List Tc} {n i : Nat} (hr : ∀ i, i < n * 5 → w.cell? ⟨b, off + i, none⟩ = (tlvCells Y)[i]?) (hi : i < n) (y : Tc) (hy : Y[i]? = some y) (q : Nat) (hq : q < 5) (u : Value) (hu : (cell5 y)[q]? = some u) :
    w.cell? ⟨b, off + i * 5 + q, none⟩ = some u := by
  have h := hr (i * 5 + q) (by omega)
  rw [tlvCells_get Y i q hq, hy, Option.bind_some, hu] at h
  rw [← h]; congr 2; omega
theorem al_d {a w : World} {o : Obj} (h : Below a.heap.size a w.drew) : Below a.heap.size a (w.alloc o).drew := by
  have h1 : Below a.heap.size a w := h.trans ⟨rfl, rfl, rfl, Nat.le_refl _, fun _ _ => rfl⟩
  exact (al2' h1).drew
theorem al_dd {a : World} {o o' : Obj} : Below a.heap.size a ((a.alloc o).alloc o').drew := (al2' (al1 o)).drew
set_option maxRecDepth 20000 in
set_option maxHeartbeats 4000000 in
theorem Same_any {w : World} (v u : Value) (L : List El) (hv : TlvS w v L) (hu : TlvS w u L) (hl : L.length ≤ 1152921504606846976) (hd : ∀ y ∈ L, y.d.length ≤ 1152921504606846976 ∧ y.r.length ≤ 1152921504606846976) :
    Calls Tryd.prog 14 #[v, u] w fun e w' => e = .returned (.bool true) ∧ Below w.heap.size w w' := by
  obtain ⟨a1, c1, Y1, rfl, hc1, hY1, h1, hs1⟩ := hv
  obtain ⟨a2, c2, Y2, rfl, hc2, hY2, h2, hs2⟩ := hu
  by_cases hne : L = []
  · subst hne
    simp only [List.length_nil]
    go_enter Tryd.func14, Tryd.ntmps14
    go_wp2_with fail
    refine wp_loop_rounds 1 ?_
    rw [rounds_succ]
    go_wp2
    go_ret
    exact ⟨rfl, Below.refl _ _⟩
  rcases h1 with h1 | ⟨b1, o1, rfl, hb1, hr1⟩
  · exact absurd h1 hne
  rcases h2 with h2 | ⟨b2, o2, rfl, hb2, hr2⟩
  · exact absurd h2 hne
  obtain ⟨n, hn⟩ : ∃ n, L.length = n := ⟨_, rfl⟩
  rw [hn] at hl hc1 hc2 hr1 hr2 ⊢
  have HX : Hid ((∀ i, i < n * 5 → w.cell? ⟨b1, o1 + i, none⟩ = (tlvCells Y1)[i]?) ∧ (∀ i, i < n * 5 → w.cell? ⟨b2, o2 + i, none⟩ = (tlvCells Y2)[i]?) ∧ (∀ y ∈ Y1, Sl .u8 w y.2.1 y.1.d ∧ Sl .u8 w y.2.2 y.1.r) ∧ (∀ y ∈ Y2, Sl .u8 w y.2.1 y.1.d ∧ Sl .u8 w y.2.2 y.1.r) ∧ Y1.map (·.1) = L ∧ Y2.map (·.1) = L ∧ L.length = n) := ⟨hr1, hr2, hs1, hs2, hY1, hY2, hn⟩
  have HD : Hid (∀ y ∈ L, y.d.length ≤ 1152921504606846976 ∧ y.r.length ≤ 1152921504606846976) := hd
  clear hr1 hr2 hs1 hs2 hY1 hY2 hn hne hd
  go_enter Tryd.func14, Tryd.ntmps14
  go_wp2_with fail
  go_loopw [5] (fun iv wr => ∃ i : Nat, i ≤ n ∧ iv = .int .i64 i ∧ Below w.heap.size w wr) (fun iv _ => n - (intOf iv).toNat)
  case atStart => exact ⟨0, Nat.zero_le _, rfl, Below.refl _ _⟩
  case round =>
    obtain ⟨i, hi, rfl, hB⟩ := hrel
    by_cases hlt : i < n
    · have l1 : (i : Int) < (n : Int) := by omega
      have hl1 : i < Y1.length := by have := HX.out.2.2.2.2; rw [← this.2.2, ← this.1, List.length_map] at hlt; exact hlt
      have hl2 : i < Y2.length := by have := HX.out.2.2.2.2; rw [← this.2.2, ← this.2.1, List.length_map] at hlt; exact hlt
      obtain ⟨⟨x, d1, r1⟩, hy1⟩ : ∃ y, Y1[i]? = some y := ⟨_, List.getElem?_eq_getElem hl1⟩
      obtain ⟨⟨x', d2, r2⟩, hy2⟩ : ∃ y, Y2[i]? = some y := ⟨_, List.getElem?_eq_getElem hl2⟩
      have hxx : x' = x := by
        have e1 : (Y1.map (·.1))[i]? = some x := by rw [List.getElem?_map, hy1]; rfl
        have e2 : (Y2.map (·.1))[i]? = some x' := by rw [List.getElem?_map, hy2]; rfl
        rw [HX.out.2.2.2.2.1] at e1
        rw [HX.out.2.2.2.2.2.1, e1] at e2
        exact (Option.some.inj e2).symm
      subst hxx
      obtain ⟨cl, tg, co, xd, xr⟩ := x'
      have hm1 := HX.out.2.2.1 _ (List.mem_of_getElem? hy1)
      have hm2 := HX.out.2.2.2.1 _ (List.mem_of_getElem? hy2)
      have hmL : (⟨cl, tg, co, xd, xr⟩ : El) ∈ L := by
        rw [← HX.out.2.2.2.2.1]; exact List.mem_map.2 ⟨_, List.mem_of_getElem? hy1, rfl⟩
      have hlen := HD.out _ hmL
      obtain ⟨ad1, cd1, hd1⟩ : ∃ a c, d1 = .slice a xd.length c := by obtain ⟨a, c, h, _⟩ := hm1.1; exact ⟨a, c, h⟩
      obtain ⟨ar1, cr1, hr1⟩ : ∃ a c, r1 = .slice a xr.length c := by obtain ⟨a, c, h, _⟩ := hm1.2; exact ⟨a, c, h⟩
      obtain ⟨ad2, cd2, hd2⟩ : ∃ a c, d2 = .slice a xd.length c := by obtain ⟨a, c, h, _⟩ := hm2.1; exact ⟨a, c, h⟩
      obtain ⟨ar2, cr2, hr2⟩ : ∃ a c, r2 = .slice a xr.length c := by obtain ⟨a, c, h, _⟩ := hm2.2; exact ⟨a, c, h⟩
      obtain ⟨nd, hnd⟩ : ∃ nd, xd.length = nd := ⟨_, rfl⟩
      obtain ⟨nr, hnr⟩ : ∃ nr, xr.length = nr := ⟨_, rfl⟩
      rw [hnd] at hd1 hd2
      rw [hnr] at hr1 hr2
      subst hd1 hd2 hr1 hr2
      have p10 : wr.cell? ⟨b1, o1 + i * 5, none⟩ = some (.int .i64 cl) := (hB.cell (p := ⟨b1, o1 + i * 5, none⟩) hb1).trans (cells_at HX.out.1 hlt _ hy1 0 (by omega) _ rfl)
      have p11 : wr.cell? ⟨b1, o1 + i * 5 + 1, none⟩ = some (.int .i64 tg) := (hB.cell (p := ⟨b1, o1 + i * 5 + 1, none⟩) hb1).trans (cells_at HX.out.1 hlt _ hy1 1 (by omega) _ rfl)
      have p12 : wr.cell? ⟨b1, o1 + i * 5 + 2, none⟩ = some (.bool co) := (hB.cell (p := ⟨b1, o1 + i * 5 + 2, none⟩) hb1).trans (cells_at HX.out.1 hlt _ hy1 2 (by omega) _ rfl)
      have p13 : wr.cell? ⟨b1, o1 + i * 5 + 3, none⟩ = some (.slice ad1 nd cd1) := (hB.cell (p := ⟨b1, o1 + i * 5 + 3, none⟩) hb1).trans (cells_at HX.out.1 hlt _ hy1 3 (by omega) _ rfl)
      have p14 : wr.cell? ⟨b1, o1 + i * 5 + 4, none⟩ = some (.slice ar1 nr cr1) := (hB.cell (p := ⟨b1, o1 + i * 5 + 4, none⟩) hb1).trans (cells_at HX.out.1 hlt _ hy1 4 (by omega) _ rfl)
      have p20 : wr.cell? ⟨b2, o2 + i * 5, none⟩ = some (.int .i64 cl) := (hB.cell (p := ⟨b2, o2 + i * 5, none⟩) hb2).trans (cells_at HX.out.2.1 hlt _ hy2 0 (by omega) _ rfl)
      have p21 : wr.cell? ⟨b2, o2 + i * 5 + 1, none⟩ = some (.int .i64 tg) := (hB.cell (p := ⟨b2, o2 + i * 5 + 1, none⟩) hb2).trans (cells_at HX.out.2.1 hlt _ hy2 1 (by omega) _ rfl)
      have p22 : wr.cell? ⟨b2, o2 + i * 5 + 2, none⟩ = some (.bool co) := (hB.cell (p := ⟨b2, o2 + i * 5 + 2, none⟩) hb2).trans (cells_at HX.out.2.1 hlt _ hy2 2 (by omega) _ rfl)
      have p23 : wr.cell? ⟨b2, o2 + i * 5 + 3, none⟩ = some (.slice ad2 nd cd2) := (hB.cell (p := ⟨b2, o2 + i * 5 + 3, none⟩) hb2).trans (cells_at HX.out.2.1 hlt _ hy2 3 (by omega) _ rfl)
      have p24 : wr.cell? ⟨b2, o2 + i * 5 + 4, none⟩ = some (.slice ar2 nr cr2) := (hB.cell (p := ⟨b2, o2 + i * 5 + 4, none⟩) hb2).trans (cells_at HX.out.2.1 hlt _ hy2 4 (by omega) _ rfl)
      have HH : Hid (Below w.heap.size w wr ∧ Sl .u8 w (.slice ad1 nd cd1) xd ∧ Sl .u8 w (.slice ad2 nd cd2) xd ∧ Sl .u8 w (.slice ar1 nr cr1) xr ∧ Sl .u8 w (.slice ar2 nr cr2) xr ∧ xd.length ≤ 1152921504606846976 ∧ xr.length ≤ 1152921504606846976) := ⟨hB, hm1.1, hm2.1, hm1.2, hm2.2, hlen.1, hlen.2⟩
      clear hm1 hm2 hmL hlen hnd hnr hy1 hy2 hl1 hl2 hB
      have hb1' : b1 < wr.heap.size := Nat.lt_of_lt_of_le hb1 HH.out.1.size
      have hb2' : b2 < wr.heap.size := Nat.lt_of_lt_of_le hb2 HH.out.1.size
      go_upto_region 6 with (fail)
      have ten : Hid (∀ W, Below wr.heap.size wr W → W.cell? ⟨b1, o1 + i * 5, none⟩ = some (.int .i64 cl) ∧ W.cell? ⟨b1, o1 + i * 5 + 1, none⟩ = some (.int .i64 tg) ∧ W.cell? ⟨b1, o1 + i * 5 + 2, none⟩ = some (.bool co) ∧ W.cell? ⟨b1, o1 + i * 5 + 3, none⟩ = some (.slice ad1 nd cd1) ∧ W.cell? ⟨b1, o1 + i * 5 + 4, none⟩ = some (.slice ar1 nr cr1) ∧ W.cell? ⟨b2, o2 + i * 5, none⟩ = some (.int .i64 cl) ∧ W.cell? ⟨b2, o2 + i * 5 + 1, none⟩ = some (.int .i64 tg) ∧ W.cell? ⟨b2, o2 + i * 5 + 2, none⟩ = some (.bool co) ∧ W.cell? ⟨b2, o2 + i * 5 + 3, none⟩ = some (.slice ad2 nd cd2) ∧ W.cell? ⟨b2, o2 + i * 5 + 4, none⟩ = some (.slice ar2 nr cr2)) := fun W h =>
        ⟨(h.cell hb1').trans p10, (h.cell hb1').trans p11, (h.cell hb1').trans p12, (h.cell hb1').trans p13, (h.cell hb1').trans p14, (h.cell hb2').trans p20, (h.cell hb2').trans p21, (h.cell hb2').trans p22, (h.cell hb2').trans p23, (h.cell hb2').trans p24⟩
      go_region_held3 (fun W => Below wr.heap.size wr W ∧ W.cell? ⟨b1, o1 + i * 5, none⟩ = some (.int .i64 cl) ∧ W.cell? ⟨b1, o1 + i * 5 + 1, none⟩ = some (.int .i64 tg) ∧ W.cell? ⟨b1, o1 + i * 5 + 2, none⟩ = some (.bool co) ∧ W.cell? ⟨b1, o1 + i * 5 + 3, none⟩ = some (.slice ad1 nd cd1) ∧ W.cell? ⟨b1, o1 + i * 5 + 4, none⟩ = some (.slice ar1 nr cr1) ∧ W.cell? ⟨b2, o2 + i * 5, none⟩ = some (.int .i64 cl) ∧ W.cell? ⟨b2, o2 + i * 5 + 1, none⟩ = some (.int .i64 tg) ∧ W.cell? ⟨b2, o2 + i * 5 + 2, none⟩ = some (.bool co) ∧ W.cell? ⟨b2, o2 + i * 5 + 3, none⟩ = some (.slice ad2 nd cd2) ∧ W.cell? ⟨b2, o2 + i * 5 + 4, none⟩ = some (.slice ar2 nr cr2)) (first | exact ⟨(Below.refl _ _).drew, ten.out _ (Below.refl _ _).drew⟩ | exact (fun h => ⟨h, ten.out _ h⟩) (al_d (And.left (by assumption))) | exact (fun h => ⟨h, ten.out _ h⟩) al_dd) (fail)
      · go_upto_region 7 with (fail)
        refine wp_gen (fun W => Blk 32 W wr.heap.size [.int .i64 cl, .int .i64 tg, .bool co, .slice ad1 nd cd1, .slice ar1 nr cr1] ∧ Blk 32 W (wr.heap.size + 1) [.int .i64 cl, .int .i64 tg, .bool co, .slice ad2 nd cd2, .slice ar2 nr cr2] ∧ Below wr.heap.size wr W) ⟨(Blk.new _ wr _).alloc _, blk_nw (by simp) rfl, (by first | exact al_dd | exact al2' (al1 _))⟩ ?_
        rintro w2 ⟨hx, hy, hb2w⟩
        have H2 : Hid (Below w.heap.size w w2) := below_via HH.out.1 hb2w (Nat.le_refl _)
        have x0 : w2.cell? ⟨wr.heap.size, 0, none⟩ = some (.int .i64 cl) := hx.cell 0
        have x1 : w2.cell? ⟨wr.heap.size, 1, none⟩ = some (.int .i64 tg) := hx.cell 1
        have x2 : w2.cell? ⟨wr.heap.size, 2, none⟩ = some (.bool co) := hx.cell 2
        have x3 : w2.cell? ⟨wr.heap.size, 3, none⟩ = some (.slice ad1 nd cd1) := hx.cell 3
        have y0 : w2.cell? ⟨(wr.heap.size + 1), 0, none⟩ = some (.int .i64 cl) := hy.cell 0
        have y1 : w2.cell? ⟨(wr.heap.size + 1), 1, none⟩ = some (.int .i64 tg) := hy.cell 1
        have y2 : w2.cell? ⟨(wr.heap.size + 1), 2, none⟩ = some (.bool co) := hy.cell 2
        have y3 : w2.cell? ⟨(wr.heap.size + 1), 3, none⟩ = some (.slice ad2 nd cd2) := hy.cell 3
        have HB : Hid (Blk 32 w2 wr.heap.size [.int .i64 cl, .int .i64 tg, .bool co, .slice ad1 nd cd1, .slice ar1 nr cr1] ∧ Blk 32 w2 (wr.heap.size + 1) [.int .i64 cl, .int .i64 tg, .bool co, .slice ad2 nd cd2, .slice ar2 nr cr2]) := ⟨hx, hy⟩
        clear hx hy hb2w p10 p11 p12 p13 p14 p20 p21 p22 p23 p24 ten
        go_wp2_with fail
        refine (SameBytes_any _ _ xd (below_sl H2.out HH.out.2.1) (below_sl H2.out HH.out.2.2.1) HH.out.2.2.2.2.2.1).mono ?_
        rintro e w3 ⟨rfl, hb3⟩
        have H3 : Hid (Below w.heap.size w w3) := below_via H2.out hb3 (Nat.le_refl _)
        have x4 : w3.cell? ⟨wr.heap.size, 4, none⟩ = some (.slice ar1 nr cr1) := (below_blk hb3 HB.out.1.lt HB.out.1).cell 4
        have y4 : w3.cell? ⟨(wr.heap.size + 1), 4, none⟩ = some (.slice ar2 nr cr2) := (below_blk hb3 HB.out.2.lt HB.out.2).cell 4
        clear hb3 x0 x1 x2 x3 y0 y1 y2 y3
        go_wp2_with fail
        refine (SameBytes_any _ _ xr (below_sl H3.out HH.out.2.2.2.1) (below_sl H3.out HH.out.2.2.2.2.1) HH.out.2.2.2.2.2.2).mono ?_
        rintro e w4 ⟨rfl, hb4⟩
        have H4 : Hid (Below w.heap.size w w4) := below_via H3.out hb4 (Nat.le_refl _)
        clear hb4 x4 y4
        go_wp2
        go_roundw
        case rel => exact ⟨i + 1, by omega, by go_num, H4.out⟩
        case measure => simp [intOf]; omega
      · go_upto_region 7 with (fail)
        refine wp_gen (fun W => Blk 32 W (wr.heap.size + 1) [.int .i64 cl, .int .i64 tg, .bool co, .slice ad1 nd cd1, .slice ar1 nr cr1] ∧ Blk 32 W wr.heap.size [.int .i64 cl, .int .i64 tg, .bool co, .slice ad2 nd cd2, .slice ar2 nr cr2] ∧ Below wr.heap.size wr W) ⟨blk_nw (by simp) rfl, (Blk.new _ wr _).alloc _, (by first | exact al_dd | exact al2' (al1 _))⟩ ?_
        rintro w2 ⟨hx, hy, hb2w⟩
        have H2 : Hid (Below w.heap.size w w2) := below_via HH.out.1 hb2w (Nat.le_refl _)
        have x0 : w2.cell? ⟨(wr.heap.size + 1), 0, none⟩ = some (.int .i64 cl) := hx.cell 0
        have x1 : w2.cell? ⟨(wr.heap.size + 1), 1, none⟩ = some (.int .i64 tg) := hx.cell 1
        have x2 : w2.cell? ⟨(wr.heap.size + 1), 2, none⟩ = some (.bool co) := hx.cell 2
        have x3 : w2.cell? ⟨(wr.heap.size + 1), 3, none⟩ = some (.slice ad1 nd cd1) := hx.cell 3
        have y0 : w2.cell? ⟨wr.heap.size, 0, none⟩ = some (.int .i64 cl) := hy.cell 0
        have y1 : w2.cell? ⟨wr.heap.size, 1, none⟩ = some (.int .i64 tg) := hy.cell 1
        have y2 : w2.cell? ⟨wr.heap.size, 2, none⟩ = some (.bool co) := hy.cell 2
        have y3 : w2.cell? ⟨wr.heap.size, 3, none⟩ = some (.slice ad2 nd cd2) := hy.cell 3
        have HB : Hid (Blk 32 w2 (wr.heap.size + 1) [.int .i64 cl, .int .i64 tg, .bool co, .slice ad1 nd cd1, .slice ar1 nr cr1] ∧ Blk 32 w2 wr.heap.size [.int .i64 cl, .int .i64 tg, .bool co, .slice ad2 nd cd2, .slice ar2 nr cr2]) := ⟨hx, hy⟩
        clear hx hy hb2w p10 p11 p12 p13 p14 p20 p21 p22 p23 p24 ten
        go_wp2_with fail
        refine (SameBytes_any _ _ xd (below_sl H2.out HH.out.2.1) (below_sl H2.out HH.out.2.2.1) HH.out.2.2.2.2.2.1).mono ?_
        rintro e w3 ⟨rfl, hb3⟩
        have H3 : Hid (Below w.heap.size w w3) := below_via H2.out hb3 (Nat.le_refl _)
        have x4 : w3.cell? ⟨(wr.heap.size + 1), 4, none⟩ = some (.slice ar1 nr cr1) := (below_blk hb3 HB.out.1.lt HB.out.1).cell 4
        have y4 : w3.cell? ⟨wr.heap.size, 4, none⟩ = some (.slice ar2 nr cr2) := (below_blk hb3 HB.out.2.lt HB.out.2).cell 4
        clear hb3 x0 x1 x2 x3 y0 y1 y2 y3
        go_wp2_with fail
        refine (SameBytes_any _ _ xr (below_sl H3.out HH.out.2.2.2.1) (below_sl H3.out HH.out.2.2.2.2.1) HH.out.2.2.2.2.2.2).mono ?_
        rintro e w4 ⟨rfl, hb4⟩
        have H4 : Hid (Below w.heap.size w w4) := below_via H3.out hb4 (Nat.le_refl _)
        clear hb4 x4 y4
        go_wp2
        go_roundw
        case rel => exact ⟨i + 1, by omega, by go_num, H4.out⟩
        case measure => simp [intOf]; omega
    · obtain rfl : i = n := by omega
      have HB : Hid (Below w.heap.size w wr) := hB
      have l1 : ¬ (i : Int) < (i : Int) := by omega
      clear hB
      go_wp2
      go_ret
      exact ⟨rfl, HB.out⟩
end Go.Proofs.YtndcpjnfdgojkaaDoor
