/-
  Ber: joined walked: the data of a string of segments.
-/
import Derived.Test.YtefebamomdcaaaaGreatDoorK21
namespace Go.Proofs.YtefebamomdcaaaaGreatDoor
open Go.RowKit
theorem Sl.open1 {w : World} {a : Option Addr} {n c : Nat} {d : List Int} (h : Sl .u8 w (.slice a n c) d) (h0 : 0 < d.length) : ∃ b off, a = some ⟨b, off, none⟩ ∧ b < w.heap.size ∧ Rd .u8 w b off d ∧ d.length ≤ c ∧ n = d.length := by
  obtain ⟨a', c', h1, hc, h⟩ := h
  simp only [Value.slice.injEq] at h1
  obtain ⟨rfl, rfl, rfl⟩ := h1
  rcases h with rfl | ⟨b, off, rfl, hb, hr⟩
  · simp at h0
  · exact ⟨b, off, rfl, hb, hr, hc, rfl⟩
theorem flat_snoc (S : List Te) {i : Nat} (h : i < S.length) : (S.take (i + 1)).flatMap (·.d) = (S.take i).flatMap (·.d) ++ S[i].d := by
  rw [List.take_succ_eq_append_getElem h, List.flatMap_append]
  simp
theorem jbits_snoc : ∀ (S : List Te) (A : List Int) (x : Te), jbits A (S ++ [x]) = if x.co = true then jbits A S else (jbits A S).set 0 (x.d.getD 0 0) ++ x.d.drop 1
  | [], A, x => by simp only [List.nil_append, jbits]
  | y :: S, A, x => by
    rw [List.cons_append, jbits, jbits]
    split
    · exact jbits_snoc S A x
    · exact jbits_snoc S _ x
theorem jbits_take (S : List Te) {i : Nat} (h : i < S.length) : jbits [0] (S.take (i + 1)) = if S[i].co = true then jbits [0] (S.take i) else (jbits [0] (S.take i)).set 0 (S[i].d.getD 0 0) ++ S[i].d.drop 1 := by
  rw [List.take_succ_eq_append_getElem h, jbits_snoc]
theorem datL_take (S : List Te) (i : Nat) : datL (S.take i) ≤ datL S := by
  have := datL_app (S.take i) (S.drop i)
  rw [List.take_append_drop] at this
  omega
theorem datL_at (S : List Te) {i : Nat} (h : i < S.length) : datL (S.take i) + S[i].d.length ≤ datL S := by
  have h1 := datL_take S (i + 1)
  rw [List.take_succ_eq_append_getElem h, datL_app] at h1
  simp only [datL] at h1
  omega
set_option maxRecDepth 20000 in
set_option maxHeartbeats 4000000 in
theorem joined_any {w : World} (t : Int) (v : Value) (S : List Te) (hv : ElS w v S) (hD : datL S ≤ 1099511627776) (hn : S.length ≤ 1152921504606846976) (hs : segOk t S) :
    Calls Tryz.prog 98 #[.int .i64 t, v] w fun e w' => (∃ r, e = .returned r ∧ Row .u8 5 w.heap.size w' r (joinB t S)) ∧ Below w.heap.size w w' := by
  obtain ⟨n, hnn⟩ : ∃ n, S.length = n := ⟨_, rfl⟩
  have HX : Hid (ElS w v S ∧ datL S ≤ 1099511627776 ∧ S.length = n ∧ segOk t S) := ⟨hv, hD, hnn, hs⟩
  obtain ⟨a, c, rfl⟩ : ∃ a c, v = .slice a n c := by obtain ⟨a, c, Y, h, _⟩ := hv; exact ⟨a, c, by rw [h, hnn]⟩
  have hnM : n ≤ 1152921504606846976 := by omega
  obtain ⟨O, hO⟩ : ∃ O, joinB t S = O := ⟨_, rfl⟩
  have HO : Hid (joinB t S = O) := hO
  rw [hO]
  clear hv hD hnn hs hn hO
  by_cases ht : t = 3
  · subst ht
    have HO3 : Hid (jbits [0] S = O) := by show _ = _; rw [← HO.out]; unfold joinB; rw [if_pos rfl]
    have HS3 : Hid (∀ x ∈ S, x.co = false → 0 < x.d.length ∧ x.d.getD 0 0 ≤ 7) := HX.out.2.2.2 rfl
    clear HO
    go_enter Tryz.func98, Tryz.ntmps98
    go_upto_region 10 with (fail)
    refine wp_gen (fun W => Below w.heap.size w W ∧ Row .u8 5 w.heap.size W (.slice (some ⟨w.heap.size, 0, none⟩) 1 1) [0]) ⟨al1 _, .inr ⟨w.heap.size, [0], rfl, Nat.le_refl _, arr_nw rfl rfl, Nat.le_refl _, rfl, by decide⟩⟩ ?_
    rintro w1 ⟨hb1, hr1⟩
    have H1 : Hid (Below w.heap.size w w1 ∧ Row .u8 5 w.heap.size w1 (.slice (some ⟨w.heap.size, 0, none⟩) 1 1) [0]) := ⟨hb1, hr1⟩
    clear hb1 hr1
    go_wp2_with fail
    go_loopw [8, 28] (fun bv iv wr => ∃ (i : Nat) (b0 : Value), b0 = bv ∧ iv = .int .i64 i ∧ i ≤ n ∧ Row .u8 5 w.heap.size wr b0 (jbits [0] (S.take i)) ∧ Below w.heap.size w wr) (fun _ iv _ => n - (intOf iv).toNat)
    case atStart => exact ⟨0, _, rfl, rfl, Nat.zero_le _, H1.out.2, H1.out.1⟩
    case round =>
      obtain ⟨i, b0, rfl, rfl, hi, hr, hbl⟩ := hrel
      by_cases hlt : i < n
      · have hltI : (i : Int) < (n : Int) := by omega
        have hltn : i < n := hlt
        have hlS : i < S.length := by have := HX.out.2.2.1; omega
        obtain ⟨b', o', xd, xm, xk, rfl, hbw, p0, p1, p2, p3, p4, hxs⟩ := HX.out.1.at hlS
        replace p0 := (hbl.cell (p := ⟨b', o' + i * 5, none⟩) hbw).trans p0
        replace p1 := (hbl.cell (p := ⟨b', o' + i * 5 + 1, none⟩) hbw).trans p1
        replace p2 := (hbl.cell (p := ⟨b', o' + i * 5 + 2, none⟩) hbw).trans p2
        replace p3 := (hbl.cell (p := ⟨b', o' + i * 5 + 3, none⟩) hbw).trans p3
        replace p4 := (hbl.cell (p := ⟨b', o' + i * 5 + 4, none⟩) hbw).trans p4
        have hstep := jbits_take S hlS
        have hjl := jbits_len (S.take i) [0]
        have hdl := datL_at S hlS
        have hDD := HX.out.2.1
        have hseg := HS3.out S[i] (List.getElem_mem _)
        obtain ⟨X, hX⟩ : ∃ X, jbits [0] (S.take i) = X := ⟨_, rfl⟩
        rw [hX] at hr hstep hjl
        obtain ⟨x, hx⟩ : ∃ x, S[i] = x := ⟨_, rfl⟩
        rw [hx] at p0 p1 p2 p3 hxs hstep hdl hseg
        obtain ⟨X2, hX2⟩ : ∃ X2, jbits [0] (S.take (i + 1)) = X2 := ⟨_, rfl⟩
        rw [hX2] at hstep
        simp only [List.length_cons, List.length_nil] at hjl
        have hXl : X.length + x.d.length ≤ 1099511627778 := by omega
        have hX0 : 0 < X.length := by omega
        obtain ⟨b, m, hbv, hbB, hbl2, hcs, hfs⟩ := hr.cells hX0
        obtain ⟨xl, hxl⟩ : ∃ xl, X.length = xl := ⟨_, rfl⟩
        rw [hxl] at hbv
        subst hbv
        obtain ⟨dp, cl, tg, co, d⟩ := x
        simp only [] at p0 p1 p2 p3 hxs hstep hseg hXl
        have HR : Hid (Row .u8 5 w.heap.size wr (.slice (some ⟨b, 0, none⟩) xl m) X ∧ Below w.heap.size w wr ∧ Sl .u8 w (.slice xd xm xk) d ∧ X.length = xl ∧ X.length + d.length ≤ 1099511627778 ∧ w.heap.size ≤ b ∧ b < wr.heap.size ∧ jbits [0] (S.take (i + 1)) = X2) := ⟨hr, hbl, hxs, hxl, hXl, hbB, hbl2, hX2⟩
        have c0 := hcs 0 hX0
        have f0 := hfs 0
        obtain ⟨xz, hxz⟩ : ∃ xz, X.getD 0 0 = xz := ⟨_, rfl⟩
        rw [hxz] at c0
        have hxl0 : (0 : Int) < (xl : Int) := by omega
        have hwz : w.heap.size ≤ wr.heap.size := hbl.size
        cases co with
        | true =>
          rw [if_pos rfl] at hstep
          have HE : Hid (X2 = X) := hstep
          clear hr hbl hxs hX hx hdl hDD hXl hX0 hbl2 hcs hfs hxl hseg hX2 hstep hjl hxz c0 f0
          go_upto_region 13 with (fail)
          refine wp_gen (fun W => Below wr.heap.size wr W ∧ Blk 59 W wr.heap.size [.int .i64 dp, .int .i64 cl, .int .i64 tg, .bool true, .slice xd xm xk]) ⟨al1 _, Blk.new _ wr _⟩ ?_
          rintro w4 ⟨hb4, hB4⟩
          have d3 : w4.cell? ⟨wr.heap.size, 3, none⟩ = some (.bool true) := hB4.cell 3
          have H4 : Hid (Below wr.heap.size wr w4) := hb4
          clear hb4 hB4 p0 p1 p2 p3 p4
          go_wp2
          go_roundw
          case rel => exact ⟨i + 1, _, rfl, by go_num, by omega, by rw [HR.out.2.2.2.2.2.2.2, HE.out]; exact HR.out.1.below H4.out, HR.out.2.1.trans (H4.out.mono hwz)⟩
          case measure => simp [intOf]; omega
        | false =>
          obtain ⟨hd0, hd7⟩ := hseg rfl
          obtain ⟨sb, so, rfl, hsb, hsr, hsc, rfl⟩ := hxs.open1 hd0
          obtain ⟨dz, hdz⟩ : ∃ dz, d.getD 0 0 = dz := ⟨_, rfl⟩
          rw [if_neg (by decide), hdz] at hstep
          obtain ⟨dl, hdl2⟩ : ∃ dl, d.length = dl := ⟨_, rfl⟩
          have s0 : w.cell? ⟨sb, so, none⟩ = some (.int .u8 dz) := by have := hsr 0 hd0; rw [Nat.add_zero, hdz] at this; exact this
          obtain ⟨ba, hba⟩ : ∃ ba : Option Addr, (if xk = 1 then some ⟨sb, so, none⟩ else some ⟨sb, so + 1, none⟩) = ba := ⟨_, rfl⟩
          have HSS : Hid (∀ W : World, Below w.heap.size w W → Sl .u8 W (.slice ba (dl - 1) (xk - 1)) (d.drop 1)) := fun W hW => by
            have := rd_slo (c := xk) (Nat.lt_of_lt_of_le hsb hW.size) (below_rd hW hsb hsr) 1 d.length (by omega) (Nat.le_refl _) hsc
            rw [hba, hdl2] at this
            rwa [List.take_of_length_le (by rw [List.length_drop, hdl2]; exact Nat.le_refl _)] at this
          have HE : Hid (X2 = X.set 0 dz ++ d.drop 1 ∧ d.length = dl) := ⟨hstep, hdl2⟩
          rw [hdl2] at hd0 hsc p4
          have hdI : (1 : Int) ≤ (dl : Int) := by omega
          have hd1 : 1 ≤ dl := hd0
          have hd0I : (0 : Int) < (dl : Int) := by omega
          have hxkI : (dl : Int) ≤ (xk : Int) := by omega
          have hx1I : (1 : Int) ≤ (xk : Int) := by omega
          have hx1 : 1 ≤ xk := by omega
          clear hr hbl hxs hX hx hdl hDD hXl hX0 hcs hfs hxl hseg hX2 hstep hjl hxz hd7 hsr hdz hdl2
          go_upto_region 13 with (fail)
          refine wp_gen (fun W => Below wr.heap.size wr W ∧ Blk 59 W wr.heap.size [.int .i64 dp, .int .i64 cl, .int .i64 tg, .bool false, .slice (some ⟨sb, so, none⟩) dl xk]) ⟨al1 _, Blk.new _ wr _⟩ ?_
          rintro w4 ⟨hb4, hB4⟩
          have d3 : w4.cell? ⟨wr.heap.size, 3, none⟩ = some (.bool false) := hB4.cell 3
          have d4 : w4.cell? ⟨wr.heap.size, 4, none⟩ = some (.slice (some ⟨sb, so, none⟩) dl xk) := hB4.cell 4
          have s4 : w4.cell? ⟨sb, so, none⟩ = some (.int .u8 dz) := ((below_via HR.out.2.1 hb4 (Nat.le_refl _)).cell (p := ⟨sb, so, none⟩) hsb).trans s0
          have c4 : w4.cell? ⟨b, 0, none⟩ = some (.int .u8 xz) := (hb4.cell (p := ⟨b, 0, none⟩) hbl2).trans c0
          have f4 : w4.frozen? ⟨b, 0, none⟩ = false := (hb4.frozen (p := ⟨b, 0, none⟩) hbl2).trans f0
          have H4 : Hid (Below wr.heap.size wr w4 ∧ Blk 59 w4 wr.heap.size [.int .i64 dp, .int .i64 cl, .int .i64 tg, .bool false, .slice (some ⟨sb, so, none⟩) dl xk]) := ⟨hb4, hB4⟩
          clear hb4 hB4 p0 p1 p2 p3 p4 s0 c0 f0
          go_upto_region 15 with (fail)
          have hput := ((HR.out.1.below H4.out.1).put 0 dz).1
          have hb5 : Below w.heap.size w (w4.setCell ⟨b, 0, none⟩ (.int .u8 dz)) := (below_via HR.out.2.1 H4.out.1 (Nat.le_refl _)).setCell HR.out.2.2.2.2.2.1 _
          have hB5 : Blk 59 (w4.setCell ⟨b, 0, none⟩ (.int .u8 dz)) wr.heap.size [.int .i64 dp, .int .i64 cl, .int .i64 tg, .bool false, .slice (some ⟨sb, so, none⟩) dl xk] := (Upd.set w4 b 0 (.int .u8 dz)).blk H4.out.2 (by have := HR.out.2.2.2.2.2.2.1; omega)
          refine wp_gen (fun W => Row .u8 5 w.heap.size W (.slice (some ⟨b, 0, none⟩) xl m) (X.set 0 dz) ∧ Below w.heap.size w W ∧ Blk 59 W wr.heap.size [.int .i64 dp, .int .i64 cl, .int .i64 tg, .bool false, .slice (some ⟨sb, so, none⟩) dl xk]) ⟨hput, hb5, hB5⟩ ?_
          rintro w5 ⟨hr5, hb5', hB5'⟩
          have e4 : w5.cell? ⟨wr.heap.size, 4, none⟩ = some (.slice (some ⟨sb, so, none⟩) dl xk) := hB5'.cell 4
          have H5 : Hid (Row .u8 5 w.heap.size w5 (.slice (some ⟨b, 0, none⟩) xl m) (X.set 0 dz) ∧ Below w.heap.size w w5 ∧ Sl .u8 w5 (.slice ba (dl - 1) (xk - 1)) (d.drop 1)) := ⟨hr5, hb5', HSS.out w5 hb5'⟩
          have hwz5 : w.heap.size ≤ w5.heap.size := hb5'.size
          clear hput hb5 hB5 hr5 hb5' hB5' d3 d4 s4 c4 f4
          go_upto_region 16 with (at_builtin; refine wpList_ap rfl (.tmp 41) (.tmp 44) 22 22 rfl .u8 5 1 Tryz.und8 Tryz.info8 (by decide) w.heap.size _ (X.set 0 dz) rfl H5.out.1 (.slice ba (dl - 1) (xk - 1)) (d.drop 1) rfl (src_sl Tryz.und8 H5.out.2.2) (by rw [List.length_set, List.length_drop]; have := HR.out.2.2.2.2.1; omega) hwz5 ?_; intro v6 w6 hr6 hg6)
          have H6 : Hid (Row .u8 5 w.heap.size w6 v6 (X.set 0 dz ++ d.drop 1) ∧ Below w.heap.size w w6) := ⟨hr6, H5.out.2.1.trans (hg6.below H5.out.1 hwz5)⟩
          clear hr6 hg6 e4
          go_wp2
          go_roundw
          case rel => exact ⟨i + 1, _, rfl, by go_num, by omega, by rw [HR.out.2.2.2.2.2.2.2, HE.out.1]; exact H6.out.1, H6.out.2⟩
          case measure => simp [intOf]; omega
      · obtain rfl : i = n := by omega
        have hltI : ¬ (i : Int) < (i : Int) := by omega
        have H4 : Hid (Row .u8 5 w.heap.size wr b0 O ∧ Below w.heap.size w wr) := by
          rw [List.take_of_length_le (by have := HX.out.2.2.1; omega), HO3.out] at hr
          exact ⟨hr, hbl⟩
        clear hr hbl
        go_wp2
        go_ret
        exact ⟨⟨_, rfl, H4.out.1⟩, H4.out.2⟩
  · have htb : (t != 3) = true := by simpa using ht
    have HO3 : Hid (S.flatMap (·.d) = O) := by show _ = _; rw [← HO.out]; unfold joinB; rw [if_neg ht]
    clear HO ht
    go_enter Tryz.func98, Tryz.ntmps98
    go_wp2_with fail
    go_loopw [5, 15] (fun bv iv wr => ∃ (i : Nat) (b0 : Value), b0 = bv ∧ iv = .int .i64 i ∧ i ≤ n ∧ Row .u8 5 w.heap.size wr b0 ((S.take i).flatMap (·.d)) ∧ Below w.heap.size w wr) (fun _ iv _ => n - (intOf iv).toNat)
    case atStart => exact ⟨0, _, rfl, rfl, Nat.zero_le _, Row.nil _ _ _ _, Below.refl _ _⟩
    case round =>
      obtain ⟨i, b0, rfl, rfl, hi, hr, hbl⟩ := hrel
      by_cases hlt : i < n
      · have hltI : (i : Int) < (n : Int) := by omega
        have hltn : i < n := hlt
        have hlS : i < S.length := by have := HX.out.2.2.1; omega
        obtain ⟨b', o', xd, xm, xk, rfl, hbw, p0, p1, p2, p3, p4, hxs⟩ := (HX.out.1.below hbl).at hlS
        have hstep := flat_snoc S hlS
        have hjl : ((S.take i).flatMap (·.d)).length = datL (S.take i) := datL_flat _
        have hdl := datL_at S hlS
        have hDD := HX.out.2.1
        obtain ⟨X, hX⟩ : ∃ X, (S.take i).flatMap (·.d) = X := ⟨_, rfl⟩
        rw [hX] at hr hstep hjl
        obtain ⟨x, hx⟩ : ∃ x, S[i] = x := ⟨_, rfl⟩
        rw [hx] at p0 p1 p2 p3 hxs hstep hdl
        have hXl : X.length + x.d.length ≤ 1099511627778 := by omega
        obtain ⟨dp, cl, tg, co, d⟩ := x
        simp only [] at p0 p1 p2 p3 hxs hstep hXl
        have HR : Hid (Row .u8 5 w.heap.size wr b0 X ∧ Below w.heap.size w wr ∧ Sl .u8 wr (.slice xd xm xk) d ∧ X.length + d.length ≤ 1099511627778 ∧ (S.take (i + 1)).flatMap (·.d) = X ++ d) := ⟨hr, hbl, hxs, hXl, hstep⟩
        have hwz : w.heap.size ≤ wr.heap.size := hbl.size
        clear hr hbl hxs hX hx hdl hDD hXl hjl hstep
        go_upto_region 6 with (fail)
        refine wp_gen (fun W => Below wr.heap.size wr W ∧ Blk 59 W wr.heap.size [.int .i64 dp, .int .i64 cl, .int .i64 tg, .bool co, .slice xd xm xk]) ⟨al1 _, Blk.new _ wr _⟩ ?_
        rintro w4 ⟨hb4, hB4⟩
        have d4 : w4.cell? ⟨wr.heap.size, 4, none⟩ = some (.slice xd xm xk) := hB4.cell 4
        have H4 : Hid (Row .u8 5 w.heap.size w4 b0 X ∧ Below wr.heap.size wr w4 ∧ Sl .u8 w4 (.slice xd xm xk) d) := ⟨HR.out.1.below hb4, hb4, below_sl hb4 HR.out.2.2.1⟩
        have hwz4 : w.heap.size ≤ w4.heap.size := Nat.le_trans hwz hb4.size
        clear hb4 hB4 p0 p1 p2 p3 p4
        go_upto_region 7 with (at_builtin; refine wpList_ap rfl (.tmp 19) (.tmp 21) 22 22 rfl .u8 5 1 Tryz.und8 Tryz.info8 (by decide) w.heap.size _ X rfl H4.out.1 _ d rfl (src_sl Tryz.und8 H4.out.2.2) (by have := HR.out.2.2.2.1; omega) hwz4 ?_; intro v5 w5 hr5 hg5)
        have H5 : Hid (Row .u8 5 w.heap.size w5 v5 (X ++ d) ∧ Below w.heap.size w w5) := ⟨hr5, (HR.out.2.1.trans (H4.out.2.1.mono hwz)).trans (hg5.below H4.out.1 hwz4)⟩
        clear hr5 hg5 d4
        go_wp2
        go_roundw
        case rel => exact ⟨i + 1, _, rfl, by go_num, by omega, by rw [HR.out.2.2.2.2]; exact H5.out.1, H5.out.2⟩
        case measure => simp [intOf]; omega
      · obtain rfl : i = n := by omega
        have hltI : ¬ (i : Int) < (i : Int) := by omega
        have H4 : Hid (Row .u8 5 w.heap.size wr b0 O ∧ Below w.heap.size w wr) := by
          rw [List.take_of_length_le (by have := HX.out.2.2.1; omega), HO3.out] at hr
          exact ⟨hr, hbl⟩
        clear hr hbl
        go_wp2
        go_ret
        exact ⟨⟨_, rfl, H4.out.1⟩, H4.out.2⟩
end Go.Proofs.YtefebamomdcaaaaGreatDoor
/-
  Ber: forms, what is wrong with an element: walked.
-/
namespace Go.Proofs.YtefebamomdcaaaaGreatDoor
open Go.RowKit
set_option maxHeartbeats 1000000 in
theorem isInt_any {w : World} (v : Value) (d : List Int) (hv : Sl .u8 w v d) (uD : U8s d) (hl : d.length ≤ 9223372036854775807) : Calls Tryz.prog 128 #[v] w fun e w' => e = .returned (.bool (intF d)) ∧ w = w' := by
  obtain ⟨r, hr⟩ : ∃ r, intF d = r := ⟨_, rfl⟩
  rw [hr]
  unfold intF at hr
  by_cases h2 : d.length < 2
  · obtain ⟨n, hn⟩ : ∃ n, d.length = n := ⟨_, rfl⟩
    obtain ⟨a, c, rfl⟩ : ∃ a c, v = .slice a n c := by obtain ⟨a, c, h, _⟩ := hv; exact ⟨a, c, by rw [h, hn]⟩
    have HR : Hid (decide (n = 1) = r) := by
      show _ = _
      rw [← hr]; exact decide_eq_decide.2 ⟨fun h => .inl (by omega), fun h => by omega⟩
    rw [hn] at h2
    clear hr hn hl hv
    rcases (by omega : n = 0 ∨ n = 1) with rfl | rfl
    · go_enter Tryz.func128, Tryz.ntmps128
      go_wp2
      go_ret
      exact ⟨retB HR.out, rfl⟩
    · go_enter Tryz.func128, Tryz.ntmps128
      go_wp2
      go_ret
      exact ⟨retB HR.out, rfl⟩
  · obtain ⟨b, o, c, rfl, hb, hc⟩ := hv.first (by omega)
    obtain ⟨x, hx⟩ : ∃ x, d.getD 0 0 = x := ⟨_, rfl⟩
    obtain ⟨y, hy⟩ : ∃ y, d.getD 1 0 = y := ⟨_, rfl⟩
    have p0 := hc 0 (by omega)
    have p1 := hc 1 (by omega)
    have ux := uD.at 0
    have uy := uD.at 1
    rw [hx] at p0 ux
    rw [hy] at p1 uy
    rw [hx, hy] at hr
    rw [Nat.add_zero] at p0
    obtain ⟨n, hn⟩ : ∃ n, d.length = n := ⟨_, rfl⟩
    rw [hn] at hr h2 hl ⊢
    have hnI : ¬ (n : Int) < 2 := by omega
    have hn1 : (1 : Int) < (n : Int) := by omega
    have hn0 : (0 : Int) < (n : Int) := by omega
    have hnM : (n : Int) ≤ 9223372036854775807 := by omega
    have HG : Hid (∀ q : Bool, (q = true ↔ ¬ (x = 0 ∧ y < 128) ∧ ¬ (x = 255 ∧ 128 ≤ y)) → q = r) := fun q hq => by
      rw [← hr]
      cases q
      · exact (decide_eq_false (fun h => by
          rcases h with h | h
          · omega
          · exact absurd (hq.2 h.2) (by decide))).symm
      · exact (decide_eq_true (.inr ⟨by omega, hq.1 rfl⟩)).symm
    have ux0 := ux.1
    have ux1 := ux.2
    have uy0 := uy.1
    have uy1 := uy.2
    clear hr hn hc hv hx hy ux uy
    by_cases q1 : 128 ≤ y
    · by_cases q2 : x = 0
      · subst q2
        go_enter Tryz.func128, Tryz.ntmps128
        go_wp2
        go_ret
        exact ⟨retB (HG.out true (by simp; omega)), rfl⟩
      · have q2b : (x == 0) = false := by simpa using q2
        by_cases q3 : x = 255
        · subst q3
          go_enter Tryz.func128, Tryz.ntmps128
          go_wp2
          go_ret
          exact ⟨retB (HG.out false (by simp; omega)), rfl⟩
        · have q3b : (x == 255) = false := by simpa using q3
          go_enter Tryz.func128, Tryz.ntmps128
          go_wp2
          go_ret
          exact ⟨retB (HG.out true (by simp; omega)), rfl⟩
    · by_cases q2 : x = 0
      · subst q2
        go_enter Tryz.func128, Tryz.ntmps128
        go_wp2
        go_ret
        exact ⟨retB (HG.out false (by simp; omega)), rfl⟩
      · have q2b : (x == 0) = false := by simpa using q2
        by_cases q3 : x = 255
        · subst q3
          go_enter Tryz.func128, Tryz.ntmps128
          go_wp2
          go_ret
          exact ⟨retB (HG.out true (by simp; omega)), rfl⟩
        · have q3b : (x == 255) = false := by simpa using q3
          go_enter Tryz.func128, Tryz.ntmps128
          go_wp2
          go_ret
          exact ⟨retB (HG.out true (by simp; omega)), rfl⟩
set_option maxHeartbeats 1000000 in
theorem isBits_any {w : World} (v : Value) (d : List Int) (hv : Sl .u8 w v d) (uD : U8s d) (hl : d.length ≤ 9223372036854775807) : Calls Tryz.prog 130 #[v] w fun e w' => e = .returned (.bool (bitF d)) ∧ w = w' := by
  obtain ⟨r, hr⟩ : ∃ r, bitF d = r := ⟨_, rfl⟩
  rw [hr]
  unfold bitF at hr
  by_cases h0 : d.length = 0
  · obtain ⟨a, c, rfl⟩ : ∃ a c, v = .slice a 0 c := by obtain ⟨a, c, h, _⟩ := hv; exact ⟨a, c, by rw [h, h0]⟩
    have HR : Hid (false = r) := by show _ = _; rw [← hr]; exact (decide_eq_false (by omega)).symm
    clear hr h0 hl hv
    go_enter Tryz.func130, Tryz.ntmps130
    go_wp2
    go_ret
    exact ⟨retB HR.out, rfl⟩
  obtain ⟨b, o, c, rfl, hb, hc⟩ := hv.first (by omega)
  obtain ⟨x, hx⟩ : ∃ x, d.getD 0 0 = x := ⟨_, rfl⟩
  have p0 := hc 0 (by omega)
  have ux := uD.at 0
  rw [hx] at p0 ux hr
  rw [Nat.add_zero] at p0
  obtain ⟨n, hn⟩ : ∃ n, d.length = n := ⟨_, rfl⟩
  rw [hn] at hr h0 hl ⊢
  have hn0 : (0 : Int) < (n : Int) := by omega
  have hnM : (n : Int) ≤ 9223372036854775807 := by omega
  have ux0 := ux.1
  have ux1 := ux.2
  clear hn hc hv hx ux
  by_cases h2 : n < 2
  · obtain rfl : n = 1 := by omega
    by_cases q1 : x = 0
    · subst q1
      have HR : Hid (true = r) := by show _ = _; rw [← hr]; simp
      clear hr
      go_enter Tryz.func130, Tryz.ntmps130
      go_wp2
      go_ret
      exact ⟨retB HR.out, rfl⟩
    · have q1b : (x == 0) = false := by simpa using q1
      have HR : Hid (false = r) := by show _ = _; rw [← hr]; simp [q1]
      clear hr
      go_enter Tryz.func130, Tryz.ntmps130
      go_wp2
      go_ret
      exact ⟨retB HR.out, rfl⟩
  · have hnI : ¬ (n : Int) < 2 := by omega
    by_cases q1 : x ≤ 7
    · have HR : Hid (true = r) := by show _ = _; rw [← hr]; exact (decide_eq_true (.inr ⟨by omega, q1⟩)).symm
      clear hr
      go_enter Tryz.func130, Tryz.ntmps130
      go_wp2
      go_ret
      exact ⟨retB HR.out, rfl⟩
    · have HR : Hid (false = r) := by show _ = _; rw [← hr]; exact (decide_eq_false (by omega)).symm
      clear hr
      go_enter Tryz.func130, Tryz.ntmps130
      go_wp2
      go_ret
      exact ⟨retB HR.out, rfl⟩
theorem oidG_step {d : List Int} {i : Nat} {x : Int} {bt : Bool} (hi : i < d.length) (hx : d.getD i 0 = x) : oidG bt (d.drop i) = if bt = true ∧ x = 128 then false else oidG (decide (x < 128)) (d.drop (i + 1)) := by
  rw [List.drop_eq_getElem_cons hi]
  have : d[i] = x := by rw [← hx, List.getD_eq_getElem?_getD, List.getElem?_eq_getElem hi]; rfl
  rw [this]; rfl
set_option maxHeartbeats 1000000 in
theorem isOid_any {w : World} (v : Value) (d : List Int) (hv : Sl .u8 w v d) (uD : U8s d) (hl : d.length ≤ 9223372036854775807) : Calls Tryz.prog 129 #[v] w fun e w' => e = .returned (.bool (oidF d)) ∧ w = w' := by
  obtain ⟨r, hr⟩ : ∃ r, oidF d = r := ⟨_, rfl⟩
  rw [hr]
  unfold oidF at hr
  by_cases h0 : d.length = 0
  · obtain ⟨a, c, rfl⟩ : ∃ a c, v = .slice a 0 c := by obtain ⟨a, c, h, _⟩ := hv; exact ⟨a, c, by rw [h, h0]⟩
    have HR : Hid (false = r) := by show _ = _; rw [← hr, h0]; rfl
    clear hr h0 hl hv
    go_enter Tryz.func129, Tryz.ntmps129
    go_wp2_with fail
    refine wp_loop_rounds 1 ?_
    rw [rounds_succ]
    go_wp2
    go_ret
    exact ⟨retB HR.out, rfl⟩
  obtain ⟨b, o, c, rfl, hb, hc⟩ := hv.first (by omega)
  obtain ⟨n, hn⟩ : ∃ n, d.length = n := ⟨_, rfl⟩
  have HR : Hid (oidG true d = r) := by show _ = _; rw [← hr, decide_eq_true (by omega)]; rfl
  have HX : Hid ((∀ i, i < n → w.cell? ⟨b, o + i, none⟩ = some (.int .u8 (d.getD i 0))) ∧ U8s d ∧ d.length = n) := ⟨by rw [← hn]; exact hc, uD, hn⟩
  rw [hn] at h0 hl ⊢
  have hn0 : (0 : Int) < (n : Int) := by omega
  have hnM : (n : Int) ≤ 9223372036854775807 := by omega
  clear hr hn hc hv uD
  go_enter Tryz.func129, Tryz.ntmps129
  go_wp2_with fail
  go_loopw [3, 8] (fun bv iv wr => ∃ (i : Nat) (bt : Bool), bv = .bool bt ∧ iv = .int .i64 i ∧ i ≤ n ∧ w = wr ∧ oidG bt (d.drop i) = r) (fun _ iv _ => n - (intOf iv).toNat)
  case atStart => exact ⟨0, true, rfl, rfl, Nat.zero_le _, rfl, by rw [List.drop_zero]; exact HR.out⟩
  case round =>
    obtain ⟨i, bt, rfl, rfl, hi, rfl, hI⟩ := hrel
    have H1 : Hid (oidG bt (d.drop i) = r) := hI
    clear hI
    by_cases hlt : i < n
    · have hltI : (i : Int) < (n : Int) := by omega
      obtain ⟨x, hx⟩ : ∃ x, d.getD i 0 = x := ⟨_, rfl⟩
      have p := HX.out.1 i hlt
      have ux := HX.out.2.1.at i
      rw [hx] at p ux
      have H2 := H1.out
      rw [oidG_step (by have := HX.out.2.2; omega) hx] at H2
      have ux0 := ux.1
      have ux1 := ux.2
      clear hx ux
      by_cases q1 : x = 128
      · subst q1
        cases bt with
        | true =>
          have HE : Hid (false = r) := by show _ = _; rw [← H2]; simp
          clear H2
          go_wp2
          go_ret
          exact ⟨retB HE.out, rfl⟩
        | false =>
          have HE : Hid (oidG false (d.drop (i + 1)) = r) := by show _ = _; rw [← H2]; simp
          clear H2
          go_wp2
          go_roundw
          case rel => exact ⟨i + 1, false, rfl, by go_num, by omega, trivial, HE.out⟩
          case measure => simp [intOf]; omega
      · have q1b : (x == 128) = false := by simpa using q1
        rw [if_neg (fun h => q1 h.2)] at H2
        by_cases q2 : x < 128
        · have HE : Hid (oidG true (d.drop (i + 1)) = r) := by show _ = _; rw [← H2]; simp [q2]
          clear H2
          cases bt
          all_goals
            go_wp2
            go_roundw
            case rel => exact ⟨i + 1, true, rfl, by go_num, by omega, trivial, HE.out⟩
            case measure => simp [intOf]; omega
        · have HE : Hid (oidG false (d.drop (i + 1)) = r) := by show _ = _; rw [← H2]; simp [q2]
          clear H2
          cases bt
          all_goals
            go_wp2
            go_roundw
            case rel => exact ⟨i + 1, false, rfl, by go_num, by omega, trivial, HE.out⟩
            case measure => simp [intOf]; omega
    · obtain rfl : i = n := by omega
      have HE : Hid (bt = r) := by show _ = _; rw [← H1.out, List.drop_of_length_le (by have := HX.out.2.2; omega)]; rfl
      go_wp2
      go_ret
      exact ⟨retB HE.out, rfl⟩
set_option maxHeartbeats 1000000 in
theorem formed_any {w : World} (t : Int) (v : Value) (d : List Int) (hv : Sl .u8 w v d) (uD : U8s d) (hl : d.length ≤ 9223372036854775807) : Calls Tryz.prog 117 #[.int .i64 t, v] w fun e w' => e = .returned (.bool (formB t d)) ∧ w = w' := by
  obtain ⟨r, hr⟩ : ∃ r, formB t d = r := ⟨_, rfl⟩
  rw [hr]
  unfold formB at hr
  have HI : Hid (∀ q, intF d = q → Calls Tryz.prog 128 #[v] w fun e w' => e = .returned (.bool q) ∧ w = w') := fun q hq => by have := isInt_any v d hv uD hl; rwa [hq] at this
  have HO : Hid (∀ q, oidF d = q → Calls Tryz.prog 129 #[v] w fun e w' => e = .returned (.bool q) ∧ w = w') := fun q hq => by have := isOid_any v d hv uD hl; rwa [hq] at this
  have HB : Hid (∀ q, bitF d = q → Calls Tryz.prog 130 #[v] w fun e w' => e = .returned (.bool q) ∧ w = w') := fun q hq => by have := isBits_any v d hv uD hl; rwa [hq] at this
  obtain ⟨n, hn⟩ : ∃ n, d.length = n := ⟨_, rfl⟩
  obtain ⟨a, c, rfl⟩ : ∃ a c, v = .slice a n c := by obtain ⟨a, c, h, _⟩ := hv; exact ⟨a, c, by rw [h, hn]⟩
  rw [hn] at hr
  have hnM : (n : Int) ≤ 9223372036854775807 := by omega
  clear hv uD hn hl
  by_cases h1 : t = 1
  · subst h1
    rw [if_pos rfl] at hr
    by_cases q : n = 1
    · subst q
      have HR : Hid (true = r) := by show _ = _; rw [← hr]; simp
      clear hr
      go_enter Tryz.func117, Tryz.ntmps117
      go_wp2
      go_ret
      exact ⟨retB HR.out, rfl⟩
    · have qb : ((n : Int) == 1) = false := by simp; omega
      have HR : Hid (false = r) := by show _ = _; rw [← hr]; simp [q]
      clear hr q
      go_enter Tryz.func117, Tryz.ntmps117
      go_wp2
      go_ret
      exact ⟨retB HR.out, rfl⟩
  have b1 : (t == 1) = false := by simpa using h1
  rw [if_neg h1] at hr
  by_cases h2 : t = 2 ∨ t = 10
  · rw [if_pos h2] at hr
    have HC := HI.out r hr
    have HC2 : Hid (Calls Tryz.prog 128 #[.slice a n c] w fun e w' => e = .returned (.bool r) ∧ w = w') := HC
    clear hr HC h1
    rcases h2 with rfl | rfl
    all_goals
      go_enter Tryz.func117, Tryz.ntmps117
      go_wp2_with (go_at_call 128; refine HC2.out.mono ?_; rintro e w1 ⟨rfl, rfl⟩)
      go_ret
      exact ⟨rfl, rfl⟩
  have b2 : (t == 2) = false := by simp; omega
  have b10 : (t == 10) = false := by simp; omega
  rw [if_neg h2] at hr
  by_cases h5 : t = 5
  · subst h5
    rw [if_pos rfl] at hr
    by_cases q : n = 0
    · subst q
      have HR : Hid (true = r) := by show _ = _; rw [← hr]; simp
      clear hr
      go_enter Tryz.func117, Tryz.ntmps117
      go_wp2
      go_ret
      exact ⟨retB HR.out, rfl⟩
    · have qb : ((n : Int) == 0) = false := by simp; omega
      have HR : Hid (false = r) := by show _ = _; rw [← hr]; simp [q]
      clear hr q
      go_enter Tryz.func117, Tryz.ntmps117
      go_wp2
      go_ret
      exact ⟨retB HR.out, rfl⟩
  have b5 : (t == 5) = false := by simpa using h5
  rw [if_neg h5] at hr
  by_cases h6 : t = 6
  · subst h6
    rw [if_pos rfl] at hr
    have HC2 : Hid (Calls Tryz.prog 129 #[.slice a n c] w fun e w' => e = .returned (.bool r) ∧ w = w') := HO.out r hr
    clear hr
    go_enter Tryz.func117, Tryz.ntmps117
    go_wp2_with (go_at_call 129; refine HC2.out.mono ?_; rintro e w1 ⟨rfl, rfl⟩)
    go_ret
    exact ⟨rfl, rfl⟩
  have b6 : (t == 6) = false := by simpa using h6
  rw [if_neg h6] at hr
  by_cases h3 : t = 3
  · subst h3
    rw [if_pos rfl] at hr
    have HC2 : Hid (Calls Tryz.prog 130 #[.slice a n c] w fun e w' => e = .returned (.bool r) ∧ w = w') := HB.out r hr
    clear hr
    go_enter Tryz.func117, Tryz.ntmps117
    go_wp2_with (go_at_call 130; refine HC2.out.mono ?_; rintro e w1 ⟨rfl, rfl⟩)
    go_ret
    exact ⟨rfl, rfl⟩
  have b3 : (t == 3) = false := by simpa using h3
  rw [if_neg h3] at hr
  have HR : Hid (true = r) := hr
  clear hr h1 h2 h5 h6 h3
  go_enter Tryz.func117, Tryz.ntmps117
  go_wp2
  go_ret
  exact ⟨retB HR.out, rfl⟩
set_option maxHeartbeats 1000000 in
theorem spare_any {w : World} (x : Te) (s : Value) (hv : Sl .u8 w s x.d) (uD : U8s x.d) (hl : x.d.length ≤ 9223372036854775807) (h3 : x.tg = 3 → 0 < x.d.length) : Calls Tryz.prog 118 #[elV x s] w fun e w' => e = .returned (.bool (spareB x)) ∧ Below w.heap.size w w' := by
  obtain ⟨r, hr⟩ : ∃ r, spareB x = r := ⟨_, rfl⟩
  rw [hr]
  obtain ⟨dp, cl, tg, co, d⟩ := x
  unfold spareB at hr
  simp only [] at hr hv uD hl h3
  by_cases h1 : tg = 3
  · subst h1
    have h0 := h3 rfl
    obtain ⟨b, o, c, rfl, hb, hc⟩ := hv.first h0
    obtain ⟨x, hx⟩ : ∃ x, d.getD 0 0 = x := ⟨_, rfl⟩
    have p0 := hc 0 h0
    rw [hx] at p0 hr
    rw [Nat.add_zero] at p0
    obtain ⟨n, hn⟩ : ∃ n, d.length = n := ⟨_, rfl⟩
    rw [hn] at h0 hl ⊢
    have hn0 : (0 : Int) < (n : Int) := by omega
    clear hn hc hv hx h3
    have HR : Hid ((x != 0) = r) := by show _ = _; rw [← hr]; simp [bne]; rfl
    clear hr
    cases hq : (x != 0) with
    | true =>
      rw [hq] at HR
      go_enter Tryz.func118, Tryz.ntmps118
      go_wp2
      go_ret
      exact ⟨retB HR.out, al1 _⟩
    | false =>
      rw [hq] at HR
      go_enter Tryz.func118, Tryz.ntmps118
      go_wp2
      go_ret
      exact ⟨retB HR.out, al1 _⟩
  · have h2 : (tg == 3) = false := by simpa using h1
    have HR : Hid (false = r) := by show _ = _; rw [← hr]; simp [h1]
    clear hr h1 h3
    go_enter Tryz.func118, Tryz.ntmps118
    go_wp2
    go_ret
    exact ⟨retB HR.out, al1 _⟩
end Go.Proofs.YtefebamomdcaaaaGreatDoor
