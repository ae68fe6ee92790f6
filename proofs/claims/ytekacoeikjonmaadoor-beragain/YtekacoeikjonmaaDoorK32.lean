/-
  Ber: the reference's Huge and Same walked. (wip/mkb73.py)
-/
import Derived.Deep.RegionHeld3
import Derived.Test.YtekacoeikjonmaaDoorK31
namespace Go.Proofs.YtekacoeikjonmaaDoor
open Go.RowKit
theorem al_d {a w : World} {o : Obj} (h : Below a.heap.size a w.drew) : Below a.heap.size a (w.alloc o).drew := by
  have h1 : Below a.heap.size a w := h.trans ⟨rfl, rfl, rfl, Nat.le_refl _, fun _ _ => rfl⟩
  exact (al2' h1).drew
theorem al_dd {a : World} {o o' : Obj} : Below a.heap.size a ((a.alloc o).alloc o').drew := (al2' (al1 o)).drew
/-- What Huge tells: where it says no, the tree is small. -/
def HgOut (e : Ending) (L : List Te) : Prop := ∃ b, e = .returned (.bool b) ∧ (b = false → L.length ≤ 300 ∧ datL L ≤ 16384)
theorem datL_step (L : List Te) {i : Nat} (h : i < L.length) : datL (L.take (i + 1)) = datL (L.take i) + L[i].d.length := by
  rw [List.take_succ_eq_append_getElem h, datL_app]
  simp [datL]
set_option maxRecDepth 20000 in
set_option maxHeartbeats 4000000 in
theorem Huge_any {w : World} (v : Value) (L : List Te) (hv : ElS w v L) (hL : ∀ x ∈ L, x.d.length ≤ 9223372036854775807) (hn : L.length ≤ 9223372036854775807) :
    Calls Tryd.prog 12 #[v, .int .i64 300, .int .i64 16384] w fun e w' => HgOut e L ∧ Below w.heap.size w w' := by
  obtain ⟨n, hnn⟩ : ∃ n, L.length = n := ⟨_, rfl⟩
  have HX : Hid (ElS w v L ∧ (∀ x ∈ L, x.d.length ≤ 9223372036854775807) ∧ L.length = n) := ⟨hv, hL, hnn⟩
  obtain ⟨a, c, rfl⟩ : ∃ a c, v = .slice a n c := by obtain ⟨a, c, Y, h, _⟩ := hv; exact ⟨a, c, by rw [h, hnn]⟩
  have hnM : n ≤ 9223372036854775807 := by omega
  clear hv hL hnn hn
  by_cases h3 : 300 < n
  · have h3I : (300 : Int) < (n : Int) := by omega
    go_enter Tryd.func12, Tryd.ntmps12
    go_wp2
    go_ret
    exact ⟨⟨_, rfl, fun h => by cases h⟩, Below.refl _ _⟩
  have h3I : ¬ (300 : Int) < (n : Int) := by omega
  go_enter Tryd.func12, Tryd.ntmps12
  go_wp2
  go_loopw [7, 8] (fun sv iv wr => ∃ i s : Nat, sv = .int .i64 s ∧ iv = .int .i64 i ∧ i ≤ n ∧ datL (L.take i) = s ∧ s ≤ 16384 ∧ Below w.heap.size w wr) (fun _ iv _ => n - (intOf iv).toNat)
  case atStart => exact ⟨0, 0, rfl, rfl, Nat.zero_le _, by simp [datL], by omega, Below.refl _ _⟩
  case round =>
    obtain ⟨i, s, rfl, rfl, hi, hs, hs2, hB⟩ := hrel
    by_cases hlt : i < n
    · have hltI : (i : Int) < (n : Int) := by omega
      have hlS : i < L.length := by have := HX.out.2.2; omega
      obtain ⟨b', o', xd, xm, xk, rfl, hbw, -, -, -, -, p4, hxs⟩ := HX.out.1.at hlS
      replace p4 : wr.cell? ⟨b', o' + i * 5 + 4, none⟩ = some (.slice xd xm xk) := (hB.cell hbw).trans p4
      have hst := datL_step L hlS
      have hxl : xm = L[i].d.length := by obtain ⟨_, _, h, _⟩ := hxs; simp only [Value.slice.injEq] at h; exact h.2.1
      have hxm := HX.out.2.1 L[i] (List.getElem_mem _)
      rw [hs, ← hxl] at hst
      rw [← hxl] at hxm
      have HR : Hid (Below w.heap.size w wr ∧ datL (L.take (i + 1)) = s + xm) := ⟨hB, hst⟩
      clear hB hst hxl hxs hs
      have hxI : (xm : Int) ≤ 9223372036854775807 := by omega
      have hsI : (s : Int) ≤ 16384 := by omega
      by_cases hg : 16384 - (s : Int) < (xm : Int)
      · go_wp2
        go_ret
        exact ⟨⟨_, rfl, fun h => by cases h⟩, HR.out.1⟩
      · have hg2 : (xm : Int) ≤ 16384 - (s : Int) := by omega
        go_wp2
        go_roundw
        case rel => exact ⟨i + 1, s + xm, by go_num, by go_num, by omega, HR.out.2, by omega, HR.out.1⟩
        case measure => simp [intOf]; omega
    · obtain rfl : i = n := by omega
      have HB : Hid (Below w.heap.size w wr ∧ L.length ≤ 300 ∧ datL L ≤ 16384) := ⟨hB, by have := HX.out.2.2; omega, by rw [List.take_of_length_le (by rw [HX.out.2.2]; exact Nat.le_refl _)] at hs; omega⟩
      have l1 : ¬ (i : Int) < (i : Int) := by omega
      clear hB hs
      go_wp2
      go_ret
      exact ⟨⟨_, rfl, fun _ => HB.out.2⟩, HB.out.1⟩
set_option maxRecDepth 20000 in
set_option maxHeartbeats 8000000 in
theorem Same_any {w : World} (v u : Value) (L : List Te) (hv : ElS w v L) (hu : ElS w u L) (hn : L.length ≤ 1152921504606846976) (hd : ∀ x ∈ L, x.d.length ≤ 1152921504606846976) :
    Calls Tryd.prog 15 #[v, u] w fun e w' => e = .returned (.bool true) ∧ Below w.heap.size w w' := by
  obtain ⟨n, hnn⟩ : ∃ n, L.length = n := ⟨_, rfl⟩
  have HX : Hid (ElS w v L ∧ ElS w u L ∧ L.length = n ∧ ∀ x ∈ L, x.d.length ≤ 1152921504606846976) := ⟨hv, hu, hnn, hd⟩
  obtain ⟨a1, c1, rfl⟩ : ∃ a c, v = .slice a n c := by obtain ⟨a, c, Y, h, _⟩ := hv; exact ⟨a, c, by rw [h, hnn]⟩
  obtain ⟨a2, c2, rfl⟩ : ∃ a c, u = .slice a n c := by obtain ⟨a, c, Y, h, _⟩ := hu; exact ⟨a, c, by rw [h, hnn]⟩
  have hnM : n ≤ 1152921504606846976 := by omega
  clear hv hu hnn hn hd
  go_enter Tryd.func15, Tryd.ntmps15
  go_wp2_with fail
  go_loopw [5] (fun iv wr => ∃ i : Nat, i ≤ n ∧ iv = .int .i64 i ∧ Below w.heap.size w wr) (fun iv _ => n - (intOf iv).toNat)
  case atStart => exact ⟨0, Nat.zero_le _, rfl, Below.refl _ _⟩
  case round =>
    obtain ⟨i, hi, rfl, hB⟩ := hrel
    by_cases hlt : i < n
    · have l1 : (i : Int) < (n : Int) := by omega
      have hlS : i < L.length := by have := HX.out.2.2.1; omega
      obtain ⟨b1, o1, ad1, m1, cd1, rfl, hb1, p10, p11, p12, p13, p14, hx1⟩ := HX.out.1.at hlS
      obtain ⟨b2, o2, ad2, m2, cd2, rfl, hb2, p20, p21, p22, p23, p24, hx2⟩ := HX.out.2.1.at hlS
      have hlen := HX.out.2.2.2 _ (List.getElem_mem hlS)
      obtain ⟨x, hx⟩ : ∃ x, L[i] = x := ⟨_, rfl⟩
      rw [hx] at p10 p11 p12 p13 p20 p21 p22 p23 hx1 hx2 hlen
      obtain ⟨dp, cl, tg, co, xd⟩ := x
      simp only [] at p10 p11 p12 p13 p20 p21 p22 p23 hx1 hx2 hlen
      obtain ⟨nd, hnd⟩ : ∃ nd, xd.length = nd := ⟨_, rfl⟩
      have e1 : nd = m1 := by obtain ⟨_, _, h, _⟩ := hx1; simp only [Value.slice.injEq] at h; omega
      have e2 : nd = m2 := by obtain ⟨_, _, h, _⟩ := hx2; simp only [Value.slice.injEq] at h; omega
      subst e1
      subst e2
      replace p10 : wr.cell? ⟨b1, o1 + i * 5, none⟩ = some (.int .i64 dp) := (hB.cell hb1).trans p10
      replace p11 : wr.cell? ⟨b1, o1 + i * 5 + 1, none⟩ = some (.int .i64 cl) := (hB.cell hb1).trans p11
      replace p12 : wr.cell? ⟨b1, o1 + i * 5 + 2, none⟩ = some (.int .i64 tg) := (hB.cell hb1).trans p12
      replace p13 : wr.cell? ⟨b1, o1 + i * 5 + 3, none⟩ = some (.bool co) := (hB.cell hb1).trans p13
      replace p14 : wr.cell? ⟨b1, o1 + i * 5 + 4, none⟩ = some (.slice ad1 nd cd1) := (hB.cell hb1).trans p14
      replace p20 : wr.cell? ⟨b2, o2 + i * 5, none⟩ = some (.int .i64 dp) := (hB.cell hb2).trans p20
      replace p21 : wr.cell? ⟨b2, o2 + i * 5 + 1, none⟩ = some (.int .i64 cl) := (hB.cell hb2).trans p21
      replace p22 : wr.cell? ⟨b2, o2 + i * 5 + 2, none⟩ = some (.int .i64 tg) := (hB.cell hb2).trans p22
      replace p23 : wr.cell? ⟨b2, o2 + i * 5 + 3, none⟩ = some (.bool co) := (hB.cell hb2).trans p23
      replace p24 : wr.cell? ⟨b2, o2 + i * 5 + 4, none⟩ = some (.slice ad2 nd cd2) := (hB.cell hb2).trans p24
      have HH : Hid (Below w.heap.size w wr ∧ Sl .u8 w (.slice ad1 nd cd1) xd ∧ Sl .u8 w (.slice ad2 nd cd2) xd ∧ xd.length ≤ 1152921504606846976) := ⟨hB, hx1, hx2, hlen⟩
      clear hx1 hx2 hlen hnd hx hB hlS
      have hb1' : b1 < wr.heap.size := Nat.lt_of_lt_of_le hb1 HH.out.1.size
      have hb2' : b2 < wr.heap.size := Nat.lt_of_lt_of_le hb2 HH.out.1.size
      go_upto_region 6 with (fail)
      have ten : Hid (∀ W, Below wr.heap.size wr W → W.cell? ⟨b1, o1 + i * 5, none⟩ = some (.int .i64 dp) ∧ W.cell? ⟨b1, o1 + i * 5 + 1, none⟩ = some (.int .i64 cl) ∧ W.cell? ⟨b1, o1 + i * 5 + 2, none⟩ = some (.int .i64 tg) ∧ W.cell? ⟨b1, o1 + i * 5 + 3, none⟩ = some (.bool co) ∧ W.cell? ⟨b1, o1 + i * 5 + 4, none⟩ = some (.slice ad1 nd cd1) ∧ W.cell? ⟨b2, o2 + i * 5, none⟩ = some (.int .i64 dp) ∧ W.cell? ⟨b2, o2 + i * 5 + 1, none⟩ = some (.int .i64 cl) ∧ W.cell? ⟨b2, o2 + i * 5 + 2, none⟩ = some (.int .i64 tg) ∧ W.cell? ⟨b2, o2 + i * 5 + 3, none⟩ = some (.bool co) ∧ W.cell? ⟨b2, o2 + i * 5 + 4, none⟩ = some (.slice ad2 nd cd2)) := fun W h =>
        ⟨(h.cell hb1').trans p10, (h.cell hb1').trans p11, (h.cell hb1').trans p12, (h.cell hb1').trans p13, (h.cell hb1').trans p14, (h.cell hb2').trans p20, (h.cell hb2').trans p21, (h.cell hb2').trans p22, (h.cell hb2').trans p23, (h.cell hb2').trans p24⟩
      go_region_held3 (fun W => Below wr.heap.size wr W ∧ W.cell? ⟨b1, o1 + i * 5, none⟩ = some (.int .i64 dp) ∧ W.cell? ⟨b1, o1 + i * 5 + 1, none⟩ = some (.int .i64 cl) ∧ W.cell? ⟨b1, o1 + i * 5 + 2, none⟩ = some (.int .i64 tg) ∧ W.cell? ⟨b1, o1 + i * 5 + 3, none⟩ = some (.bool co) ∧ W.cell? ⟨b1, o1 + i * 5 + 4, none⟩ = some (.slice ad1 nd cd1) ∧ W.cell? ⟨b2, o2 + i * 5, none⟩ = some (.int .i64 dp) ∧ W.cell? ⟨b2, o2 + i * 5 + 1, none⟩ = some (.int .i64 cl) ∧ W.cell? ⟨b2, o2 + i * 5 + 2, none⟩ = some (.int .i64 tg) ∧ W.cell? ⟨b2, o2 + i * 5 + 3, none⟩ = some (.bool co) ∧ W.cell? ⟨b2, o2 + i * 5 + 4, none⟩ = some (.slice ad2 nd cd2)) (first | exact ⟨(Below.refl _ _).drew, ten.out _ (Below.refl _ _).drew⟩ | exact (fun h => ⟨h, ten.out _ h⟩) (al_d (And.left (by assumption))) | exact (fun h => ⟨h, ten.out _ h⟩) al_dd) (fail)
      · go_upto_region 7 with (fail)
        refine wp_gen (fun W => Blk 42 W wr.heap.size [.int .i64 dp, .int .i64 cl, .int .i64 tg, .bool co, .slice ad1 nd cd1] ∧ Blk 42 W (wr.heap.size + 1) [.int .i64 dp, .int .i64 cl, .int .i64 tg, .bool co, .slice ad2 nd cd2] ∧ Below wr.heap.size wr W) ⟨(Blk.new _ wr _).alloc _, blk_nw (by simp) rfl, (by first | exact al_dd | exact al2' (al1 _))⟩ ?_
        rintro w2 ⟨hx, hy, hb2w⟩
        have H2 : Hid (Below w.heap.size w w2) := below_via HH.out.1 hb2w (Nat.le_refl _)
        have x0 : w2.cell? ⟨wr.heap.size, 0, none⟩ = some (.int .i64 dp) := hx.cell 0
        have x1 : w2.cell? ⟨wr.heap.size, 1, none⟩ = some (.int .i64 cl) := hx.cell 1
        have x2 : w2.cell? ⟨wr.heap.size, 2, none⟩ = some (.int .i64 tg) := hx.cell 2
        have x3 : w2.cell? ⟨wr.heap.size, 3, none⟩ = some (.bool co) := hx.cell 3
        have x4 : w2.cell? ⟨wr.heap.size, 4, none⟩ = some (.slice ad1 nd cd1) := hx.cell 4
        have y0 : w2.cell? ⟨(wr.heap.size + 1), 0, none⟩ = some (.int .i64 dp) := hy.cell 0
        have y1 : w2.cell? ⟨(wr.heap.size + 1), 1, none⟩ = some (.int .i64 cl) := hy.cell 1
        have y2 : w2.cell? ⟨(wr.heap.size + 1), 2, none⟩ = some (.int .i64 tg) := hy.cell 2
        have y3 : w2.cell? ⟨(wr.heap.size + 1), 3, none⟩ = some (.bool co) := hy.cell 3
        have y4 : w2.cell? ⟨(wr.heap.size + 1), 4, none⟩ = some (.slice ad2 nd cd2) := hy.cell 4
        clear hx hy hb2w p10 p11 p12 p13 p14 p20 p21 p22 p23 p24 ten
        go_wp2_with fail
        refine (SameBytes_any _ _ xd (below_sl H2.out HH.out.2.1) (below_sl H2.out HH.out.2.2.1) HH.out.2.2.2).mono ?_
        rintro e w3 ⟨rfl, hb3⟩
        have H3 : Hid (Below w.heap.size w w3) := below_via H2.out hb3 (Nat.le_refl _)
        clear hb3 x0 x1 x2 x3 x4 y0 y1 y2 y3 y4
        go_wp2
        go_roundw
        case rel => exact ⟨i + 1, by omega, by go_num, H3.out⟩
        case measure => simp [intOf]; omega
      · go_upto_region 7 with (fail)
        refine wp_gen (fun W => Blk 42 W (wr.heap.size + 1) [.int .i64 dp, .int .i64 cl, .int .i64 tg, .bool co, .slice ad1 nd cd1] ∧ Blk 42 W wr.heap.size [.int .i64 dp, .int .i64 cl, .int .i64 tg, .bool co, .slice ad2 nd cd2] ∧ Below wr.heap.size wr W) ⟨blk_nw (by simp) rfl, (Blk.new _ wr _).alloc _, (by first | exact al_dd | exact al2' (al1 _))⟩ ?_
        rintro w2 ⟨hx, hy, hb2w⟩
        have H2 : Hid (Below w.heap.size w w2) := below_via HH.out.1 hb2w (Nat.le_refl _)
        have x0 : w2.cell? ⟨(wr.heap.size + 1), 0, none⟩ = some (.int .i64 dp) := hx.cell 0
        have x1 : w2.cell? ⟨(wr.heap.size + 1), 1, none⟩ = some (.int .i64 cl) := hx.cell 1
        have x2 : w2.cell? ⟨(wr.heap.size + 1), 2, none⟩ = some (.int .i64 tg) := hx.cell 2
        have x3 : w2.cell? ⟨(wr.heap.size + 1), 3, none⟩ = some (.bool co) := hx.cell 3
        have x4 : w2.cell? ⟨(wr.heap.size + 1), 4, none⟩ = some (.slice ad1 nd cd1) := hx.cell 4
        have y0 : w2.cell? ⟨wr.heap.size, 0, none⟩ = some (.int .i64 dp) := hy.cell 0
        have y1 : w2.cell? ⟨wr.heap.size, 1, none⟩ = some (.int .i64 cl) := hy.cell 1
        have y2 : w2.cell? ⟨wr.heap.size, 2, none⟩ = some (.int .i64 tg) := hy.cell 2
        have y3 : w2.cell? ⟨wr.heap.size, 3, none⟩ = some (.bool co) := hy.cell 3
        have y4 : w2.cell? ⟨wr.heap.size, 4, none⟩ = some (.slice ad2 nd cd2) := hy.cell 4
        clear hx hy hb2w p10 p11 p12 p13 p14 p20 p21 p22 p23 p24 ten
        go_wp2_with fail
        refine (SameBytes_any _ _ xd (below_sl H2.out HH.out.2.1) (below_sl H2.out HH.out.2.2.1) HH.out.2.2.2).mono ?_
        rintro e w3 ⟨rfl, hb3⟩
        have H3 : Hid (Below w.heap.size w w3) := below_via H2.out hb3 (Nat.le_refl _)
        clear hb3 x0 x1 x2 x3 x4 y0 y1 y2 y3 y4
        go_wp2
        go_roundw
        case rel => exact ⟨i + 1, by omega, by go_num, H3.out⟩
        case measure => simp [intOf]; omega
    · obtain rfl : i = n := by omega
      have HB : Hid (Below w.heap.size w wr) := hB
      have l1 : ¬ (i : Int) < (i : Int) := by omega
      clear hB
      go_wp2
      go_ret
      exact ⟨rfl, HB.out⟩
end Go.Proofs.YtekacoeikjonmaaDoor
/-
  The law BerBack: a tree that is laid is read as it was.
-/
namespace Go.Proofs.YtekacoeikjonmaaDoor
open Go.RowKit
theorem nds_u8 : ∀ (L : List Te), (∀ x ∈ L, standB x = true ∧ U8s x.d) → byt (nds L) < 281474976710656 → U8s (bytesOf (nds L))
  | [], _, _ => by intro y hy; simp [nds, bytesOf] at hy
  | x :: r, h, hb => by
    have h1 := h x (List.mem_cons_self ..)
    have hi := inn_le x.dp (nds r)
    have hbn : byt (nds (x :: r)) = ndL (x, frontB x (x.d.length + byt (inn x.dp (nds r)))) + byt (nds r) := by rw [nds]; simp only [byt]
    have hd : x.d.length ≤ ndL (x, frontB x (x.d.length + byt (inn x.dp (nds r)))) := by unfold ndL; simp only []; omega
    rw [nds, bytesOf_cons]
    exact (front_u8 h1.1 (by omega)).append (h1.2.append (nds_u8 r (fun y hy => h y (List.mem_cons_of_mem _ hy)) (by omega)))
theorem encS_bad {L : List Te} {er : Int} (h : encS L = .inl er) (hL : L.length ≤ 300 ∧ datL L ≤ 16384) : er = 35 := by
  unfold encS at h
  split at h
  · rename_i hT
    have := byt_nds L (tree_tg hT) (by omega)
    rw [if_neg (by omega)] at h
    cases h
  · cases h; rfl
theorem encS_ok {L : List Te} {M : List Int} (h : encS L = .inr M) (hL : L.length ≤ 300 ∧ datL L ≤ 16384) (hU : ∀ x ∈ L, U8s x.d) : parseS M = .inr L ∧ U8s M ∧ M.length ≤ 16777216 := by
  unfold encS at h
  split at h
  · rename_i hT
    have hb := byt_nds L (tree_tg hT) (by omega)
    rw [if_neg (by omega)] at h
    cases h
    refine ⟨parse_laid hT (by omega), nds_u8 L (fun x hx => ?_) (by omega), by rw [bytesOf_len]; omega⟩
    obtain ⟨i, hi, rfl⟩ := List.mem_iff_getElem.1 hx
    exact ⟨(tree_at hT i hi).1, hU _ (List.getElem_mem _)⟩
  · cases h
set_option maxRecDepth 20000 in
set_option maxHeartbeats 8000000 in
theorem BerBack_any {w : World} (hG : GlbE w) (a : Option Addr) (n c : Nat) (L : List Te) (hv : ElS w (.slice a n c) L) (hU : ∀ x ∈ L, U8s x.d ∧ x.d.length ≤ 9223372036854775807) (hn : L.length ≤ 9223372036854775807) :
    Calls Tryd.prog 4 #[.slice a n c] w fun e w' => e = .returned (.bool true) ∧ Below w.heap.size w w' := by
  have HX : Hid (GlbE w ∧ ElS w (.slice a n c) L ∧ ∀ x ∈ L, U8s x.d) := ⟨hG, hv, fun x hx => (hU x hx).1⟩
  have HL : Hid (∀ W : World, Below w.heap.size w W → Calls Tryd.prog 7 #[] W fun e w' => e = .returned (.bool true) ∧ Below W.heap.size W w') := fun W hW => live03_any (HX.out.1.below hW)
  have HH : Hid (Calls Tryd.prog 12 #[.slice a n c, .int .i64 300, .int .i64 16384] w fun e w' => HgOut e L ∧ Below w.heap.size w w') := Huge_any _ L hv (fun x hx => (hU x hx).2) hn
  clear hG hv hU hn
  go_enter Tryd.func4, Tryd.ntmps4
  go_wp2_with fail
  refine HH.out.mono ?_
  rintro e w1 ⟨⟨b, rfl, hb⟩, hbl⟩
  have HB : Hid (Below w.heap.size w w1 ∧ (b = false → L.length ≤ 300 ∧ datL L ≤ 16384)) := ⟨hbl, hb⟩
  clear hb hbl
  cases b with
  | true =>
    go_wp2_with fail
    refine (HL.out _ HB.out.1).mono ?_
    rintro e w2 ⟨rfl, hb2⟩
    go_wp2
    go_ret
    exact ⟨rfl, below_via HB.out.1 hb2 (Nat.le_refl _)⟩
  | false =>
    have HS : Hid (L.length ≤ 300 ∧ datL L ≤ 16384) := HB.out.2 rfl
    have hE := Encode_any (w := w1) (HX.out.1.below HB.out.1) (.slice a n c) L (HX.out.2.1.below HB.out.1) (by have := HS.out; omega) (by have := HS.out; omega)
    cases hO : encS L with
    | inl er =>
      obtain rfl := encS_bad hO HS.out
      rw [hO] at hE
      have HE : Hid (Calls Tryd.prog 13 #[.slice a n c] w1 fun e w' => e = .returned (.tuple #[.slice none 0 0, .int .i64 35]) ∧ Below w1.heap.size w1 w') := hE
      clear hE hO
      go_wp2_with fail
      refine HE.out.mono ?_
      rintro e w2 ⟨rfl, hb2⟩
      have H2 : Hid (Below w.heap.size w w2) := below_via HB.out.1 hb2 (Nat.le_refl _)
      clear hb2
      go_wp2_with (first | (go_at_call 9; refine (num3_any _).mono ?_; rintro e w' ⟨rfl, rfl⟩) | (go_at_call 7; refine (HL.out _ H2.out).mono ?_; rintro ev w9 ⟨rfl, hb9⟩))
      go_ret
      exact ⟨rfl, below_via H2.out hb9 (Nat.le_refl _)⟩
    | inr M =>
      obtain ⟨hM1, hM2, hM3⟩ := encS_ok hO HS.out HX.out.2.2
      rw [hO] at hE
      have HE : Hid (Calls Tryd.prog 13 #[.slice a n c] w1 fun e w' => (∃ a n c, e = .returned (.tuple #[.slice a n c, .int .i64 0]) ∧ Row .u8 5 w1.heap.size w' (.slice a n c) M) ∧ Below w1.heap.size w1 w') := hE
      clear hE hO
      go_wp2_with fail
      refine HE.out.mono ?_
      rintro e w2 ⟨⟨ra, rn, rc, rfl, hr⟩, hb2⟩
      have hrn : M.length = rn := hr.sl.lens.1.symm
      have H2 : Hid (Below w.heap.size w w2) := below_via HB.out.1 hb2 (Nat.le_refl _)
      have hP := Parse_any (w := w2) (HX.out.1.below H2.out) (.slice ra rn rc) M hr.sl hM2 (by omega)
      rw [hM1] at hP
      have HP : Hid (Calls Tryd.prog 14 #[.slice ra rn rc] w2 fun e w' => (∃ v, e = .returned (.tuple #[v, .int .i64 0, .int .i64 (M.length : Int)]) ∧ Elems w2.heap.size w' v L) ∧ Below w2.heap.size w2 w') := hP
      have HR : Hid (M.length = rn) := hrn
      clear hb2 hr hrn hP hM1 hM2 hM3
      go_wp2_with (go_at_call 9; refine (num3_any _).mono ?_; rintro e w' ⟨rfl, rfl⟩)
      refine HP.out.mono ?_
      rintro e w3 ⟨⟨v, rfl, hel⟩, hb3⟩
      rw [HR.out]
      have H3 : Hid (Below w.heap.size w w3) := below_via H2.out hb3 (Nat.le_refl _)
      have HQ : Hid (Calls Tryd.prog 15 #[v, .slice a n c] w3 fun e w' => e = .returned (.bool true) ∧ Below w3.heap.size w3 w') := Same_any v (.slice a n c) L hel.s (HX.out.2.1.below H3.out) (by have := HS.out; omega) (fun x hx => by have := datL_mem hx; have := HS.out; omega)
      clear hel hb3
      go_wp2_with (first | (go_at_call 9; refine (num3_any _).mono ?_; rintro e w' ⟨rfl, rfl⟩) | (go_at_call 15; refine HQ.out.mono ?_; rintro ev w8 ⟨rfl, hb8⟩; have H8 : Hid (Below w.heap.size w w8) := below_via H3.out hb8 (Nat.le_refl _); clear hb8) | (go_at_call 7; refine (HL.out _ H8.out).mono ?_; rintro ev w9 ⟨rfl, hb9⟩))
      go_ret
      exact ⟨rfl, below_via H8.out hb9 (Nat.le_refl _)⟩
end Go.Proofs.YtekacoeikjonmaaDoor
/-
  Ber: a tree in which nothing is wrong can be settled (pure).
-/
namespace Go.Proofs.YtekacoeikjonmaaDoor
open Go.RowKit
theorem row_fol : ∀ {r : List Te} {a : Te}, rowB a r = true → ∀ k, k < r.length → folB ((a :: r).getD k noTe) (r.getD k noTe) = true
  | [], _, _, k, hk => by simp at hk
  | x :: r, a, h, k, hk => by
    simp only [rowB, Bool.and_eq_true] at h
    cases k with
    | zero => exact h.1.2
    | succ k => exact row_fol h.2 k (by simpa using hk)
theorem tree_fol {L : List Te} (h : treeB L = true) (k : Nat) (hk : k + 1 < L.length) : folB (L.getD k noTe) (L.getD (k + 1) noTe) = true := by
  cases L with
  | nil => simp at hk
  | cons x r =>
    simp only [treeB, Bool.and_eq_true] at h
    exact row_fol h.2 k (by simpa using hk)
theorem getD_ix {L : List Te} {j : Nat} (h : j < L.length) : L.getD j noTe = L[j] := by
  rw [List.getD_eq_getElem?_getD, List.getElem?_eq_getElem h]; rfl
theorem tree_dp {L : List Te} (h : treeB L = true) {j : Nat} (hj : j < L.length) : 0 ≤ (L.getD j noTe).dp ∧ (L.getD j noTe).dp ≤ 63 := by
  obtain ⟨_, ⟨d, h1, h2⟩, _⟩ := tree_at h j hj
  rw [getD_ix hj]
  omega
theorem lt_inv (L : List Te) : ∀ i, i ≤ L.length → ∀ k, k < 64 → ∀ j, j < i → (L.getD j noTe).dp.toNat = k → (∀ j', j < j' → j' < i → (L.getD j' noTe).dp.toNat ≠ k) → (seatF L i).1.getD k 0 = j
  | 0, _, _, _, j, hj, _, _ => by omega
  | i + 1, hi, k, hk, j, hj, hd, hl => by
    have hlen := (SeatI.all L i (by omega)).lt
    show ((seatS L i (seatF L i).1 (seatF L i).2).1).getD k 0 = j
    unfold seatS
    simp only []
    rw [getD_set]
    by_cases hji : j = i
    · subst hji
      rw [if_pos ⟨hd, by rw [hlen]; omega⟩]
    · have := hl i (by omega) (by omega)
      rw [if_neg (fun h => this h.1)]
      exact lt_inv L i (by omega) k hk j (by omega) hd (fun j' h1 h2 => hl j' h1 (by omega))
theorem seat_other (L : List Te) (i : Nat) (LT : List Nat) (Q : List Sea) {j : Nat} (h : j ≠ i) : (seatS L i LT Q).2.getD j noSea = Q.getD j noSea := by
  unfold seatS
  simp only []
  split
  · rfl
  · split
    · rw [getD_set, if_neg (fun h' => h h'.1.symm)]
    · rfl
theorem seat_keep (L : List Te) (j : Nat) : ∀ i, j < i → (seatF L i).2.getD j noSea = (seatF L (j + 1)).2.getD j noSea
  | 0, h => by omega
  | i + 1, h => by
    by_cases hji : j = i
    · subst hji; rfl
    · show ((seatS L i (seatF L i).1 (seatF L i).2).2).getD j noSea = _
      rw [seat_other L i _ _ hji]
      exact seat_keep L j i (by omega)
theorem more_keep (L : List Te) (Q : List Sea) (j : Nat) : ∀ k, ((moreF L Q k).1.getD j noSea).1 = (Q.getD j noSea).1
  | 0 => rfl
  | k + 1 => by
    have ih := more_keep L Q j k
    unfold moreF
    simp only []
    split
    · rw [getD_set]
      split
      · rename_i h
        rw [← ih, ← h.1]
      · exact ih
    · exact ih
theorem seat_tag (L : List Te) {j a : Nat} (hj : j < L.length) (hd : (L.getD j noTe).dp.toNat ≠ 0) (ha : (seatF L j).1.getD ((L.getD j noTe).dp.toNat - 1) 0 = a) (hc : cstr (L.getD a noTe) = true) : ((seatsB L).getD j noSea).1 = (L.getD a noTe).tg := by
  unfold seatsB
  rw [more_keep, seat_keep L j L.length hj]
  show (((seatS L j (seatF L j).1 (seatF L j).2).2).getD j noSea).1 = _
  unfold seatS
  simp only []
  rw [if_neg hd, ha, if_pos hc, getD_set, if_pos ⟨rfl, by rw [(SeatI.all L j (by omega)).ql]; exact hj⟩]
theorem chk_none (L : List Te) (Q : List Sea) : ∀ f i, chkF L Q f i = none → ∀ j, i ≤ j → j < i + f → flB (L.getD j noTe) (Q.getD j noSea).1 (Q.getD j noSea).2.2 = 0
  | 0, i, _, j, h1, h2 => by omega
  | f + 1, i, h, j, h1, h2 => by
    unfold chkF at h
    by_cases h0 : flB (L.getD i noTe) (Q.getD i noSea).1 (Q.getD i noSea).2.2 = 0
    · rw [if_neg (fun h' => h' h0)] at h
      by_cases hij : j = i
      · subst hij; exact h0
      · exact chk_none L Q f (i + 1) h j (by omega) (by omega)
    · rw [if_pos h0] at h; cases h
/-- The last one that is not as deep, and what it is. -/
theorem last_up {L : List Te} (hT : treeB L = true) {i j : Nat} (hij : i < j) (hj : j < L.length) (hd : (L.getD i noTe).dp < (L.getD j noTe).dp) :
    ∃ a, i ≤ a ∧ a < j ∧ (L.getD a noTe).dp + 1 = (L.getD j noTe).dp ∧ (L.getD a noTe).co = true ∧ ∀ m, a < m → m < j → (L.getD j noTe).dp ≤ (L.getD m noTe).dp := by
  have find : ∀ f a, j - a = f → i ≤ a → a < j → (∀ m, a < m → m < j → (L.getD j noTe).dp ≤ (L.getD m noTe).dp) → ∃ a, i ≤ a ∧ a < j ∧ (L.getD a noTe).dp < (L.getD j noTe).dp ∧ ∀ m, a < m → m < j → (L.getD j noTe).dp ≤ (L.getD m noTe).dp := by
    have go : ∀ g a, a - i = g → i ≤ a → a < j → (∀ m, a < m → m < j → (L.getD j noTe).dp ≤ (L.getD m noTe).dp) → ∃ a, i ≤ a ∧ a < j ∧ (L.getD a noTe).dp < (L.getD j noTe).dp ∧ ∀ m, a < m → m < j → (L.getD j noTe).dp ≤ (L.getD m noTe).dp := by
      intro g
      induction g with
      | zero =>
        intro a hg h1 h2 h3
        obtain rfl : a = i := by omega
        exact ⟨a, h1, h2, hd, h3⟩
      | succ g ih =>
        intro a hg h1 h2 h3
        by_cases hlt : (L.getD a noTe).dp < (L.getD j noTe).dp
        · exact ⟨a, h1, h2, hlt, h3⟩
        · refine ih (a - 1) (by omega) (by omega) (by omega) fun m hm1 hm2 => ?_
          by_cases hma : m = a
          · subst hma; omega
          · exact h3 m (by omega) hm2
    intro f a _ h1 h2 h3
    exact go _ a rfl h1 h2 h3
  obtain ⟨a, h1, h2, h3, h4⟩ := find _ (j - 1) rfl (by omega) (by omega) (fun m hm1 hm2 => by omega)
  have hfol := tree_fol hT a (by omega)
  unfold folB at hfol
  simp only [decide_eq_true_eq] at hfol
  have hnext : (L.getD j noTe).dp ≤ (L.getD (a + 1) noTe).dp := by
    by_cases haj : a + 1 = j
    · rw [haj]; exact Int.le_refl _
    · exact h4 (a + 1) (by omega) (by omega)
  obtain ⟨_, _, hf⟩ := hfol
  rcases hf with hf | ⟨hco, hf⟩
  · omega
  · exact ⟨a, h1, h2, by omega, hco, h4⟩
theorem bit_ok {d : List Int} (h : bitF d = true) : 0 < d.length ∧ d.getD 0 0 ≤ 7 := by
  unfold bitF at h
  simp only [decide_eq_true_eq] at h
  omega
theorem chk_set {L : List Te} (hT : treeB L = true) (hC : chkB L = none) : SetP L := by
  have hfl : ∀ j, j < L.length → flB (L.getD j noTe) ((seatsB L).getD j noSea).1 ((seatsB L).getD j noSea).2.2 = 0 := fun j hj => chk_none L _ _ _ hC j (Nat.zero_le _) (by omega)
  have hprim : ∀ j, j < L.length → isB (L.getD j noTe) 3 = true → (L.getD j noTe).co = false → bitF (L.getD j noTe).d = true := by
    intro j hj hb hco
    have h := hfl j hj
    unfold isB at hb
    simp only [decide_eq_true_eq] at hb
    unfold flB at h
    split at h
    · cases h
    · rw [if_neg (by omega), hb.2, if_neg (by decide), if_neg (by rw [hco]; decide), hco, if_neg (by decide)] at h
      split at h
      · cases h
      · rename_i h'
        simp only [not_or, formB] at h'
        have := h'.1
        simpa using this
  have seg : ∀ i, i < L.length → cstr (L.getD i noTe) = true → (L.getD i noTe).tg = 3 → ∀ j, i < j → j < L.length → (∀ m, i < m → m ≤ j → (L.getD i noTe).dp < (L.getD m noTe).dp) → isB (L.getD j noTe) 3 = true := by
    intro i hi hcs htg j
    induction j using Nat.strongRecOn with
    | _ j ih =>
      intro hij hj hdp
      obtain ⟨a, h1, h2, h3, h4, h5⟩ := last_up hT hij hj (hdp j hij (Nat.le_refl _))
      have hpar : cstr (L.getD a noTe) = true ∧ (L.getD a noTe).tg = 3 := by
        by_cases hai : a = i
        · subst hai; exact ⟨hcs, htg⟩
        · have hb := ih a h2 (by omega) (by omega) (fun m hm1 hm2 => hdp m hm1 (by omega))
          unfold isB at hb
          simp only [decide_eq_true_eq] at hb
          refine ⟨?_, hb.2⟩
          unfold cstr
          rw [hb.2, hb.1, h4]
          decide
      have d1 := tree_dp hT (show a < L.length by omega)
      have d2 := tree_dp hT hj
      have hlast : (seatF L j).1.getD ((L.getD j noTe).dp.toNat - 1) 0 = a := by
        refine lt_inv L j (by omega) _ (by omega) a h2 (by omega) fun m hm1 hm2 => ?_
        have := h5 m hm1 hm2
        omega
      have htag := seat_tag L hj (by omega) hlast hpar.1
      rw [hpar.2] at htag
      have h := hfl j hj
      rw [htag] at h
      unfold flB at h
      by_cases hb : isB (L.getD j noTe) 3 = true
      · exact hb
      · have hb' : isB (L.getD j noTe) (sgT 3) = false := by rw [show sgT 3 = 3 from rfl]; cases hx : isB (L.getD j noTe) 3 with | true => exact absurd hx hb | false => rfl
        rw [if_pos ⟨by decide, hb'⟩] at h
        cases h
  intro i x hx
  have hi : i < L.length := (List.getElem?_eq_some_iff.1 hx).1
  have hxd : L.getD i noTe = x := by rw [List.getD_eq_getElem?_getD, hx]; rfl
  refine ⟨fun hc ht3 y hy hco => ?_, fun hc => ⟨fun h1 => ?_, fun h3 => ?_⟩⟩
  · obtain ⟨t, ht, hty⟩ := List.mem_iff_getElem.1 hy
    have hpre : ∀ m, m ≤ t → ∃ h : i + 1 + m < L.length, x.dp < (L[i + 1 + m]).dp := by
      intro m hm
      have hm2 : m < (dpr x.dp (L.drop (i + 1))).length := by omega
      have hmem := List.getElem_mem hm2
      have hle := (List.takeWhile_prefix (l := L.drop (i + 1)) fun y => decide (x.dp < y.dp)).length_le
      have hlt : m < (L.drop (i + 1)).length := Nat.lt_of_lt_of_le hm2 hle
      have heq : (dpr x.dp (L.drop (i + 1)))[m] = (L.drop (i + 1))[m] := (List.takeWhile_prefix (l := L.drop (i + 1)) fun y => decide (x.dp < y.dp)).getElem hm2
      have hp := List.all_takeWhile (l := L.drop (i + 1)) (p := fun y => decide (x.dp < y.dp))
      rw [List.all_eq_true] at hp
      have h1 := hp _ hmem
      simp only [decide_eq_true_eq] at h1
      rw [heq, List.getElem_drop] at h1
      rw [List.length_drop] at hlt
      exact ⟨by omega, h1⟩
    obtain ⟨hjl, _⟩ := hpre t (Nat.le_refl _)
    have hyv : L.getD (i + 1 + t) noTe = y := by
      have heq : (dpr x.dp (L.drop (i + 1)))[t] = (L.drop (i + 1))[t]'(by rw [List.length_drop]; omega) := (List.takeWhile_prefix (l := L.drop (i + 1)) fun y => decide (x.dp < y.dp)).getElem ht
      rw [getD_ix hjl, ← hty, heq, List.getElem_drop]
    have hb := seg i hi (by rw [hxd]; exact hc) (by rw [hxd]; exact ht3) (i + 1 + t) (by omega) hjl (fun m hm1 hm2 => by
      obtain ⟨h1, h2⟩ := hpre (m - (i + 1)) (by omega)
      have hm : i + 1 + (m - (i + 1)) = m := by omega
      rw [hxd]
      rw [show L.getD m noTe = L.getD (i + 1 + (m - (i + 1))) noTe by rw [hm], getD_ix h1]
      exact h2)
    have hbf := hprim (i + 1 + t) hjl hb (by rw [hyv]; exact hco)
    rw [hyv] at hbf
    exact bit_ok hbf
  · have h := hfl i hi
    rw [hxd] at h
    unfold isB at h1
    simp only [decide_eq_true_eq] at h1
    unfold flB at h
    split at h
    · cases h
    · rw [if_neg (by omega), h1.2, if_neg (by decide)] at h
      cases hco : x.co with
      | true => rw [hco, if_pos (.inr ⟨by decide, rfl⟩)] at h; cases h
      | false =>
        rw [hco, if_neg (by decide), if_neg (by decide)] at h
        split at h
        · cases h
        · rename_i h'
          simp only [not_or, formB] at h'
          have := h'.1
          simp at this
          omega
  · have hb3 := h3
    unfold isB at h3
    simp only [decide_eq_true_eq] at h3
    cases hco : x.co with
    | true =>
      unfold cstr at hc
      rw [h3.1, h3.2, hco] at hc
      exact absurd hc (by decide)
    | false =>
      have hbf := hprim i hi (by rw [hxd]; exact hb3) (by rw [hxd]; exact hco)
      rw [hxd] at hbf
      exact bit_ok hbf
end Go.Proofs.YtekacoeikjonmaaDoor
