/-
  Digest: the reference's sha256.
-/
import Derived.Test.YtjmiaakfdclfjaaGreatDoorK31
namespace Go.Proofs.YtjmiaakfdclfjaaGreatDoor.Sh
open Go.RowKit
set_option maxRecDepth 20000
theorem getD_blk (M : List Int) (q j n : Nat) (hj : j < n) : ((M.drop q).take n).getD j 0 = M.getD (q + j) 0 := by
  rw [List.getD_eq_getElem?_getD, List.getElem?_take, if_pos hj, List.getElem?_drop, ← List.getD_eq_getElem?_getD]
theorem run2_ok (M : List Int) (k : Nat) : (run 2 M k).words.ok U32 := by
  cases k with
  | zero => exact of_ok first256_u
  | succ k => exact mx256_ok _
def w256f (bs W : List Int) (t : Nat) : Int := w256 bs W t
theorem w256f_lo {bs W : List Int} {t : Nat} (h : t < 16) : w256f bs W t = wd32 bs t := by unfold w256f w256; rw [if_pos h]
theorem w256f_hi {bs W : List Int} {t : Nat} (h : ¬ t < 16) : w256f bs W t = (mvd32 (W.getD (t - 2) 0) 17 19 10 + W.getD (t - 7) 0 + mvd32 (W.getD (t - 15) 0) 7 18 3 + W.getD (t - 16) 0) % 4294967296 := by unfold w256f w256; rw [if_neg h]
theorem out2_four (s : St) (i : Nat) (x : Int) (hi : i < 8) (hx : s.words.list.getD i 0 = x) : (out 2 s).take (4 * (i + 1)) = (out 2 s).take (4 * i) ++ [x / 16777216 % 256, x / 65536 % 256, x / 256 % 256, x % 256] := by
  subst hx
  have h : i = 0 ∨ i = 1 ∨ i = 2 ∨ i = 3 ∨ i = 4 ∨ i = 5 ∨ i = 6 ∨ i = 7 := by omega
  rcases h with rfl | rfl | rfl | rfl | rfl | rfl | rfl | rfl <;> simp [out, siz, outB, blk, List.range, List.range.loop, R8.list]
theorem store_mid_w {P : Program} {ops : Array Oper} {rest : List Oper} {op : Oper} {a : Act} {w : World} {Q : Exit → Act → World → Prop} (hgd : op.guard = none) (ty : TypeId) (x y : Operand) (ho : op.op = .store ty x y)
    (b o : Nat) (cells : Array Value) (hx : a.eval x = .pointer (some ⟨b, o, none⟩)) (hy : a.eval y = .agg cells)
    (ht : w.there b o cells.size) (hi : (P.info? ty).map (·.size) = some cells.size) (h1 : cells.all (·.oneCell') = true)
    (h : ∀ w', w.setCells b o cells.toList = w' → wpList P ops Q rest (a.put op.dst undef) w') : wpList P ops Q (op :: rest) a w :=
  wpList_store_mid hgd ty x y ho b o cells hx hy ht hi h1 (h _ rfl)
theorem adds_at (t : Nat) (ht : t < 64) : (adds256L.map (Value.int .u32))[t]? = some (.int .u32 (adds256L.getD t 0)) := by
  have hl : adds256L.length = 64 := rfl
  rw [List.getElem?_map, List.getD_eq_getElem?_getD, List.getElem?_eq_getElem (by omega)]; rfl
theorem mod2 (U V : Int) : (U + V) % 4294967296 = (U % 4294967296 + V % 4294967296) % 4294967296 := by omega
theorem mod1 (d U : Int) : (d + U) % 4294967296 = (d + U % 4294967296) % 4294967296 := by omega
def stpv (a b c d e f g h x y : Int) : R8 :=
  let u := (h + trn32 e 6 11 25 + bits .xor .u32 (bits .and .u32 e f) (bits .and .u32 (bits .xor .u32 IntKind.u32.max e) g) + y + x) % 4294967296
  let v := (trn32 a 2 13 22 + bits .xor .u32 (bits .xor .u32 (bits .and .u32 a b) (bits .and .u32 a c)) (bits .and .u32 b c)) % 4294967296
  ⟨(u + v) % 4294967296, a, b, c, (d + u) % 4294967296, e, f, g⟩
theorem stpv_eq {W : List Int} {t : Nat} {a b c d e f g h x y : Int} (hx : W.getD t 0 = x) (hy : adds256L.getD t 0 = y) : stp256 W t ⟨a, b, c, d, e, f, g, h⟩ = stpv a b c d e f g h x y := by subst hx; subst hy; rfl
set_option maxRecDepth 20000 in
set_option maxHeartbeats 8000000 in
theorem sha256_any {w : World} (b off n c : Nat) (M : List Int) (K : Nat) (hb : b < w.heap.size) (hr : Rd .u8 w b off M) (uM : U8s M) (lM : M.length = n) (hK : n = 64 * K) (hn : n ≤ 33554432) (hnc : n ≤ c) :
    Calls Tryz.prog 16 #[.slice (some ⟨b, off, none⟩) n c] w fun e w' => ∃ r, e = .returned r ∧ Row .u8 5 w.heap.size w' r (out 2 (run 2 M K)) ∧ Below w.heap.size w w' := by
  have HX : Hid (b < w.heap.size ∧ Rd .u8 w b off M ∧ U8s M ∧ M.length = n ∧ n = 64 * K) := ⟨hb, hr, uM, lM, hK⟩
  clear hr uM lM hK
  obtain ⟨cs, hcs⟩ : ∃ cs, adds256L.map (Value.int .u32) = cs := ⟨_, rfl⟩
  have hcl : cs.length = 64 := by rw [← hcs]; rfl
  have HRt : Hid (∀ w' : World, Calls Tryz.prog 39 #[] w' fun e w'' => e = .returned (.agg cs.toArray) ∧ Below w'.heap.size w' w'') := fun w' => by rw [← hcs]; exact roots32_any
  have HS : Hid ((Tryz.prog.info? 67).map (·.size) = some cs.length) := by rw [hcl]; exact Tryz.size64w
  have HO : Hid (cs.toArray.all (·.oneCell') = true) := by rw [← hcs]; exact ints_one _ _
  have HC : Hid (adds256L.map (Value.int .u32) = cs ∧ cs.length = 64) := ⟨hcs, hcl⟩
  clear hcs hcl
  go_enter Tryz.func16, Tryz.ntmps16
  go_wp2_with fail
  refine (HRt.out _).mono ?_
  rintro e w0 ⟨rfl, hb0⟩
  have HB0 : Hid (Below w.heap.size w w0) := hb0
  clear hb0
  have hB0 := Blk.new 67 w0 (List.replicate 64 (Value.int .u32 0))
  have HTh : Hid ((w0.alloc (.cells (List.replicate 64 (Value.int .u32 0)).toArray 67)).there w0.heap.size 0 cs.toArray.size) := hB0.there _ _ (by have := HC.out.2; simp; omega)
  have HF : Hid (Blk 67 ((w0.alloc (.cells (List.replicate 64 (Value.int .u32 0)).toArray 67)).setCells w0.heap.size 0 cs) w0.heap.size cs ∧ Below w0.heap.size w0 ((w0.alloc (.cells (List.replicate 64 (Value.int .u32 0)).toArray 67)).setCells w0.heap.size 0 cs)) :=
    ⟨hB0.fill _ (by have := HC.out.2; simp; omega), (Upd.setCells _ _ _).below (al1 _) (al1 _).size (Nat.le_refl _)⟩
  clear hB0
  go_wp2_with (refine store_mid_w rfl 67 (.tmp 3) (.tmp 24) rfl w0.heap.size 0 cs.toArray rfl rfl HTh.out (by simpa using HS.out) HO.out ?_; intro ws hws; have HW : Hid (Blk 67 ws w0.heap.size cs ∧ Below w0.heap.size w0 ws) := (by rw [← hws]; exact HF.out); clear hws)
  go_loopw [5] (fun av wr => ∃ k q : Nat, av = .int .i64 q ∧ q = 64 * k ∧ k ≤ K ∧ Arr .u32 69 wr ws.heap.size (run 2 M k).words.list ∧ Blk 67 wr w0.heap.size cs ∧ Below w.heap.size w wr) (fun av _ => n - (intOf av).toNat)
  case atStart =>
    refine ⟨0, 0, rfl, rfl, by omega, ?_, ?_, ?_⟩
    · have := Blk.new 69 ws ((run 2 M 0).words.list.map (Value.int .u32)); exact this
    · exact below_blk (al1 _) HW.out.1.lt HW.out.1
    · exact below_via (below_via HB0.out HW.out.2 (Nat.le_refl _)) (al1 _) (Nat.le_refl _)
  case round =>
    obtain ⟨k, q, rfl, hq, hk, hA, hT, hBw⟩ := hrel
    rename World => w1
    by_cases hlt : k < K
    · have hqn : q + 64 ≤ n := by have := HX.out.2.2.2.2; omega
      have hqI : (q : Int) < (n : Int) := by omega
      obtain ⟨s0, hs0⟩ : ∃ s, (run 2 M k).words = s := ⟨_, rfl⟩
      have hok : s0.ok U32 := by rw [← hs0]; exact run2_ok M k
      have HRUN : Hid ((run 2 M (k + 1)).words = mx256 s0 ((M.drop q).take 64)) := by rw [← hs0, hq, Nat.mul_comm]; rfl
      rw [hs0] at hA
      obtain ⟨g0, g1, g2, g3, g4, g5, g6, g7⟩ := s0
      have HQ : Hid (q = 64 * k ∧ Arr .u32 69 w1 ws.heap.size [g0, g1, g2, g3, g4, g5, g6, g7] ∧ Blk 67 w1 w0.heap.size cs ∧ Below w.heap.size w w1 ∧ R8.ok U32 ⟨g0, g1, g2, g3, g4, g5, g6, g7⟩ ∧ ws.heap.size < w1.heap.size ∧ w0.heap.size < w1.heap.size) := ⟨hq, hA, hT, hBw, hok, hA.lt, hT.lt⟩
      obtain ⟨bs, hbs⟩ : ∃ bs, (M.drop q).take 64 = bs := ⟨_, rfl⟩
      rw [hbs] at HRUN
      have HBS : Hid (U8s bs ∧ ∀ j, j < 64 → w1.cell? ⟨b, off + (q + j), none⟩ = some (.int .u8 (bs.getD j 0))) := by
        refine ⟨by rw [← hbs]; exact (HX.out.2.2.1.drop _).take _, fun j hj => ?_⟩
        rw [hBw.cell (p := ⟨b, off + (q + j), none⟩) hb, HX.out.2.1 (q + j) (by have := HX.out.2.2.2.1; omega), ← hbs, getD_blk M q j 64 hj]
      have hbl : b < w1.heap.size := Nat.lt_of_lt_of_le hb hBw.size
      clear hq hA hBw hbs hs0 hok hT
      go_wp2
      go_loopw [7] (fun tv wq => ∃ t : Nat, tv = .int .i64 t ∧ t ≤ 64 ∧ Arr .u32 67 wq w1.heap.size (sch256 bs t ++ List.replicate (64 - t) 0) ∧ Below w1.heap.size w1 wq) (fun tv _ => 64 - (intOf tv).toNat)
      case atStart =>
        refine ⟨0, rfl, by omega, ?_, al1 _⟩
        have := Blk.new 67 w1 ((List.replicate 64 (0 : Int)).map (Value.int .u32)); exact this
      case round =>
        rename World => w2
        obtain ⟨t, rfl, ht, hA, hB2⟩ := hrel
        by_cases ht80 : t < 64
        · have hl : (sch256 bs t ++ List.replicate (64 - t) 0).length = 64 := by simp [sch256_len]; omega
          have hset : ∀ x, x = w256f bs (sch256 bs t) t → (sch256 bs t ++ List.replicate (64 - t) 0).set t x = sch256 bs (t + 1) ++ List.replicate (64 - (t + 1)) 0 := fun x hx => by
            have h1 := sch256_len bs t
            rw [List.set_append_right _ _ (by omega), h1, Nat.sub_self, show 64 - t = (64 - (t + 1)) + 1 by omega, List.replicate_succ, List.set_cons_zero, hx]
            simp [sch256, w256f]
          have hco := hA.cell t (by omega)
          obtain ⟨o, ho⟩ : ∃ o, (sch256 bs t ++ List.replicate (64 - t) 0).getD t 0 = o := ⟨_, rfl⟩
          rw [ho] at hco
          have hfo := hA.frozen t
          have HH : Hid (Arr .u32 67 w2 w1.heap.size (sch256 bs t ++ List.replicate (64 - t) 0) ∧ Below w1.heap.size w1 w2 ∧ ∀ x, x = w256f bs (sch256 bs t) t → (sch256 bs t ++ List.replicate (64 - t) 0).set t x = sch256 bs (t + 1) ++ List.replicate (64 - (t + 1)) 0) := ⟨hA, hB2, hset⟩
          have htI : (t : Int) < 64 := by omega
          by_cases h16 : t < 16
          · have hcj : ∀ j, j < 64 → w2.cell? ⟨b, off + (q + j), none⟩ = some (.int .u8 (bs.getD j 0)) := fun j hj => by rw [hB2.cell (p := ⟨b, off + (q + j), none⟩) hbl]; exact HBS.out.2 j hj
            obtain ⟨x0, e0⟩ : ∃ x, bs.getD (4 * t) 0 = x := ⟨_, rfl⟩
            obtain ⟨x1, e1⟩ : ∃ x, bs.getD (4 * t + 1) 0 = x := ⟨_, rfl⟩
            obtain ⟨x2, e2⟩ : ∃ x, bs.getD (4 * t + 2) 0 = x := ⟨_, rfl⟩
            obtain ⟨x3, e3⟩ : ∃ x, bs.getD (4 * t + 3) 0 = x := ⟨_, rfl⟩
            have c0 : w2.cell? ⟨b, off + (q + 4 * t), none⟩ = some (.int .u8 x0) := by rw [hcj (4 * t) (by omega), e0]
            have c1 : w2.cell? ⟨b, off + (q + 4 * t) + 1, none⟩ = some (.int .u8 x1) := by rw [Nat.add_assoc, Nat.add_assoc, hcj (4 * t + 1) (by omega), e1]
            have c2 : w2.cell? ⟨b, off + (q + 4 * t) + 2, none⟩ = some (.int .u8 x2) := by rw [Nat.add_assoc, Nat.add_assoc, hcj (4 * t + 2) (by omega), e2]
            have c3 : w2.cell? ⟨b, off + (q + 4 * t) + 3, none⟩ = some (.int .u8 x3) := by rw [Nat.add_assoc, Nat.add_assoc, hcj (4 * t + 3) (by omega), e3]
            obtain ⟨a01, a02⟩ : U8 x0 := e0 ▸ HBS.out.1.at _
            obtain ⟨a11, a12⟩ : U8 x1 := e1 ▸ HBS.out.1.at _
            obtain ⟨a21, a22⟩ : U8 x2 := e2 ▸ HBS.out.1.at _
            obtain ⟨a31, a32⟩ : U8 x3 := e3 ▸ HBS.out.1.at _
            have HV : Hid (x0 * 16777216 + x1 * 65536 + x2 * 256 + x3 = w256f bs (sch256 bs t) t) := by show _ = w256f bs (sch256 bs t) t; rw [w256f_lo h16]; unfold wd32; rw [e0, e1, e2, e3]
            have h16I : (t : Int) < 16 := by omega
            have hne : ¬ c = q + 4 * t := by omega
            have hcI : (q : Int) + 4 * (t : Int) + 4 ≤ (c : Int) := by omega
            clear hA hB2 hset ho hl hcj e0 e1 e2 e3
            go_upto_region 12 with (fail)
            refine wp_region_qsd 24 (by kernel_rfl) (by kernel_rfl) ?_
            simp only [List.take_succ_cons, List.take_zero, List.drop_succ_cons, List.drop_zero]
            repeat (go_big_quiet_step (fail))
            refine wpQuiet_nil ?_
            rintro _ ⟨q2, rfl⟩
            go_wp2
            go_roundw
            case rel =>
              obtain ⟨hA, hB2, hset⟩ := HH.out
              refine ⟨t + 1, by go_num, by omega, ?_, ?_⟩
              · have h1 : Arr .u32 67 (w2.drewN q2) w1.heap.size _ := hA
                have := h1.set t (w256f bs (sch256 bs t) t); rw [hset _ rfl, ← HV.out] at this; exact this
              · exact (Upd.set (w2.drewN q2) w1.heap.size t _).below (below_drewN q2 hB2) hB2.size (Nat.le_refl _)
            case measure => simp [intOf]; omega
          · have hget : ∀ j, j < t → (sch256 bs t ++ List.replicate (64 - t) 0).getD j 0 = (sch256 bs t).getD j 0 := fun j hj => by
              rw [List.getD_eq_getElem?_getD, List.getElem?_append_left (by rw [sch256_len]; exact hj), ← List.getD_eq_getElem?_getD]
            obtain ⟨x2, e2⟩ : ∃ x, (sch256 bs t).getD (t - 2) 0 = x := ⟨_, rfl⟩
            obtain ⟨x7, e7⟩ : ∃ x, (sch256 bs t).getD (t - 7) 0 = x := ⟨_, rfl⟩
            obtain ⟨x15, e15⟩ : ∃ x, (sch256 bs t).getD (t - 15) 0 = x := ⟨_, rfl⟩
            obtain ⟨x16, e16⟩ : ∃ x, (sch256 bs t).getD (t - 16) 0 = x := ⟨_, rfl⟩
            have c2 : w2.cell? ⟨w1.heap.size, t - 2, none⟩ = some (.int .u32 x2) := by rw [hA.cell (t - 2) (by omega), hget _ (by omega), e2]
            have c7 : w2.cell? ⟨w1.heap.size, t - 7, none⟩ = some (.int .u32 x7) := by rw [hA.cell (t - 7) (by omega), hget _ (by omega), e7]
            have c15 : w2.cell? ⟨w1.heap.size, t - 15, none⟩ = some (.int .u32 x15) := by rw [hA.cell (t - 15) (by omega), hget _ (by omega), e15]
            have c16 : w2.cell? ⟨w1.heap.size, t - 16, none⟩ = some (.int .u32 x16) := by rw [hA.cell (t - 16) (by omega), hget _ (by omega), e16]
            have hu2 : U32 x2 := e2 ▸ (sch256_u32 HBS.out.1 t).at _
            have hu15 : U32 x15 := e15 ▸ (sch256_u32 HBS.out.1 t).at _
            have HU : Hid (U32 x2 ∧ U32 x15) := ⟨hu2, hu15⟩
            obtain ⟨b21, b22⟩ := hu2
            obtain ⟨b31, b32⟩ := hu15
            have HV : Hid ((mvd32 x2 17 19 10 + x7 + mvd32 x15 7 18 3 + x16) % 4294967296 = w256f bs (sch256 bs t) t) := by
              show _ = w256f bs (sch256 bs t) t
              rw [w256f_hi h16, e2, e7, e15, e16]
            clear hA hB2 hset ho hl e2 e7 e15 e16 hget
            go_upto_region 13 with (fail)
            go_quiet (fail)
            go_upto_region 14 with (fail)
            refine wp_gen (fun W => W = w2.drewN nq) rfl ?_
            intro w3 hw3
            have HW3 : Hid (w3 = w2.drewN nq) := hw3
            replace c7 : w3.cell? ⟨w1.heap.size, t - 7, none⟩ = some (.int .u32 x7) := by rw [hw3]; exact c7
            replace c16 : w3.cell? ⟨w1.heap.size, t - 16, none⟩ = some (.int .u32 x16) := by rw [hw3]; exact c16
            replace hco : w3.cell? ⟨w1.heap.size, t, none⟩ = some (.int .u32 o) := by rw [hw3]; exact hco
            replace hfo : w3.frozen? ⟨w1.heap.size, t, none⟩ = false := by rw [hw3]; exact hfo
            clear hw3 c2 c15
            refine wp_region_qsd 29 (by kernel_rfl) (by kernel_rfl) ?_
            simp only [List.take_succ_cons, List.take_zero, List.drop_succ_cons, List.drop_zero]
            repeat (go_big_quiet_step (first | (go_at_call 40; exact Calls.quiet_of (right_I _ _ _ HU.out.1 (by omega))) | (go_at_call 40; exact Calls.quiet_of (right_I _ _ _ HU.out.2 (by omega)))))
            refine wpQuiet_nil ?_
            rintro _ ⟨q2, rfl⟩
            go_wp2
            go_roundw
            case rel =>
              obtain ⟨hA, hB2, hset⟩ := HH.out
              refine ⟨t + 1, by go_num, by omega, ?_, ?_⟩
              · have h1 : Arr .u32 67 (w3.drewN q2) w1.heap.size (sch256 bs t ++ List.replicate (64 - t) 0) := by rw [HW3.out]; exact hA
                have := h1.set t (w256f bs (sch256 bs t) t); rw [hset _ rfl, ← HV.out] at this; exact this
              · have hB3 : Below w1.heap.size w1 w3 := by rw [HW3.out]; exact below_drewN nq hB2
                exact (Upd.set (w3.drewN q2) w1.heap.size t _).below (below_drewN q2 hB3) hB3.size (Nat.le_refl _)
            case measure => simp [intOf]; omega
        · obtain rfl : t = 64 := by omega
          obtain ⟨hQ1, hQ2, hQT, hQ3, hQ4, hQ5, hQ6⟩ := HQ.out
          have hH := below_arr hB2 (by omega) hQ2
          have hT2 := below_blk hB2 (by omega) hQT
          have cA : w2.cell? ⟨ws.heap.size, 0, none⟩ = some (.int .u32 g0) := hH.cell 0 (by simp)
          have cB : w2.cell? ⟨ws.heap.size, 1, none⟩ = some (.int .u32 g1) := hH.cell 1 (by simp)
          have cC : w2.cell? ⟨ws.heap.size, 2, none⟩ = some (.int .u32 g2) := hH.cell 2 (by simp)
          have cD : w2.cell? ⟨ws.heap.size, 3, none⟩ = some (.int .u32 g3) := hH.cell 3 (by simp)
          have cE : w2.cell? ⟨ws.heap.size, 4, none⟩ = some (.int .u32 g4) := hH.cell 4 (by simp)
          have cF : w2.cell? ⟨ws.heap.size, 5, none⟩ = some (.int .u32 g5) := hH.cell 5 (by simp)
          have cG : w2.cell? ⟨ws.heap.size, 6, none⟩ = some (.int .u32 g6) := hH.cell 6 (by simp)
          have cH : w2.cell? ⟨ws.heap.size, 7, none⟩ = some (.int .u32 g7) := hH.cell 7 (by simp)
          have hA' : Arr .u32 67 w2 w1.heap.size (sch256 bs 64) := by simpa using hA
          have HH : Hid (Arr .u32 67 w2 w1.heap.size (sch256 bs 64) ∧ Arr .u32 69 w2 ws.heap.size [g0, g1, g2, g3, g4, g5, g6, g7] ∧ Below w.heap.size w w2 ∧ Blk 67 w2 w0.heap.size cs) := ⟨hA', hH, below_via hQ3 hB2 (Nat.le_refl _), hT2⟩
          have hWl := sch256_len bs 64
          obtain ⟨W, hW⟩ : ∃ W, sch256 bs 64 = W := ⟨_, rfl⟩
          obtain ⟨G, hG⟩ : ∃ G : R8, R8.mk g0 g1 g2 g3 g4 g5 g6 g7 = G := ⟨_, rfl⟩
          have HG : Hid (R8.mk g0 g1 g2 g3 g4 g5 g6 g7 = G) := hG
          have HM : Hid (∀ r, rnd256 W G 64 = r → (mx256 G bs).list = [(g0 + r.a) % 4294967296, (g1 + r.b) % 4294967296, (g2 + r.c) % 4294967296, (g3 + r.d) % 4294967296, (g4 + r.e) % 4294967296, (g5 + r.f) % 4294967296, (g6 + r.g) % 4294967296, (g7 + r.h) % 4294967296]) := fun r h => by subst h; subst hW; subst hG; rfl
          have HK : Hid (∀ t, (rnd256 W G t).ok U32) := fun t => rnd256_ok (hG ▸ hQ4) t
          have HKt : Hid (∀ t, t < 64 → cs[t]? = some (.int .u32 (adds256L.getD t 0))) := fun t ht => by rw [← HC.out.1]; exact adds_at t ht
          rw [hW] at HH hWl
          clear hW hG hH hA hA' hB2 hQ1 hQ2 hQ3 hQ4 hQ5 hQ6 hQT hT2
          go_upto_region 15 with (fail)
          go_quiet (fail)
          go_wp2_with fail
          clear cA cB cC cD cE cF cG cH
          go_loopw [11, 12, 13, 14, 15, 16, 17, 18, 19] (fun va vb vc vd ve vf vg vh iv wr => ∃ (t q : Nat), iv = .int .i64 t ∧ t ≤ 64 ∧ va = .int .u32 (rnd256 W G t).a ∧ vb = .int .u32 (rnd256 W G t).b ∧ vc = .int .u32 (rnd256 W G t).c ∧ vd = .int .u32 (rnd256 W G t).d ∧ ve = .int .u32 (rnd256 W G t).e ∧ vf = .int .u32 (rnd256 W G t).f ∧ vg = .int .u32 (rnd256 W G t).g ∧ vh = .int .u32 (rnd256 W G t).h ∧ wr = w2.drewN q) (fun _ _ _ _ _ _ _ _ iv _ => 64 - (intOf iv).toNat)
          case atStart => exact ⟨0, nq, rfl, by omega, by rw [← HG.out]; rfl, by rw [← HG.out]; rfl, by rw [← HG.out]; rfl, by rw [← HG.out]; rfl, by rw [← HG.out]; rfl, by rw [← HG.out]; rfl, by rw [← HG.out]; rfl, by rw [← HG.out]; rfl, rfl⟩
          case round =>
            rename World => w3
            obtain ⟨t, qq, rfl, ht, rfl, rfl, rfl, rfl, rfl, rfl, rfl, rfl, hwr⟩ := hrel
            have HWr : Hid (w3 = w2.drewN qq) := hwr
            clear hwr
            obtain ⟨r, hrr⟩ : ∃ r, rnd256 W G t = r := ⟨_, rfl⟩
            have hok := HK.out t
            have HR : Hid (rnd256 W G t = r) := hrr
            rw [hrr] at hok
            simp only [hrr]
            clear hrr
            obtain ⟨a, b, c, d, e, f, g, h⟩ := r
            have HU : Hid (U32 a ∧ U32 e) := ⟨hok.1, hok.2.2.2.2.1⟩
            clear hok
            by_cases ht80 : t < 64
            · obtain ⟨x, hx0⟩ : ∃ x, W.getD t 0 = x := ⟨_, rfl⟩
              obtain ⟨y, hy0⟩ : ∃ y, adds256L.getD t 0 = y := ⟨_, rfl⟩
              have hx : w3.cell? ⟨w1.heap.size, t, none⟩ = some (.int .u32 x) := by rw [HWr.out, ← hx0]; exact HH.out.1.cell t (by omega)
              have hy : w3.cell? ⟨w0.heap.size, t, none⟩ = some (.int .u32 y) := by rw [HWr.out, ← hy0, ← HKt.out t ht80]; exact HH.out.2.2.2.cell t
              have htI : (t : Int) < 64 := by omega
              have HV : Hid (rnd256 W G (t + 1) = stpv a b c d e f g h x y) := by
                show stp256 W t _ = _
                rw [HR.out]; exact stpv_eq hx0 hy0
              clear hx0 hy0
              go_upto_region 19 with (fail)
              go_quiet ((go_at_call 40; exact Calls.quiet_of (right_I _ _ _ HU.out.2 (by omega))))
              clear hx hy
              go_wp2_with (go_at_call 40; refine (right_I _ _ _ HU.out.1 (by omega)).mono ?_; rintro e' w' ⟨rfl, q4, rfl⟩)
              go_roundw
              case rel =>
                repeat (apply Exists.intro)
                refine ⟨?_, ?_⟩
                rotate_left
                · repeat (first | (refine ⟨rfl, ?_⟩) | rfl)
                · refine ⟨t + 1, ?_⟩
                  rw [HV.out]
                  exact ⟨by go_num, by omega, congrArg _ (mod2 _ _), rfl, rfl, rfl, congrArg _ (mod1 _ _), rfl, rfl, rfl, _, by rw [HWr.out, World.drewN_drewN]⟩
              case measure => simp [intOf]; omega
            · obtain rfl : t = 64 := by omega
              have hM := HM.out _ HR.out
              have hH3 : Arr .u32 69 w3 ws.heap.size [g0, g1, g2, g3, g4, g5, g6, g7] := by rw [HWr.out]; exact HH.out.2.1
              have hB3 : Below w.heap.size w w3 := by rw [HWr.out]; exact below_drewN qq HH.out.2.2.1
              have hT3 : Blk 67 w3 w0.heap.size cs := by rw [HWr.out]; exact HH.out.2.2.2
              have cA : w3.cell? ⟨ws.heap.size, 0, none⟩ = some (.int .u32 g0) := hH3.cell 0 (by simp)
              have cB : w3.cell? ⟨ws.heap.size, 1, none⟩ = some (.int .u32 g1) := hH3.cell 1 (by simp)
              have cC : w3.cell? ⟨ws.heap.size, 2, none⟩ = some (.int .u32 g2) := hH3.cell 2 (by simp)
              have cD : w3.cell? ⟨ws.heap.size, 3, none⟩ = some (.int .u32 g3) := hH3.cell 3 (by simp)
              have cE : w3.cell? ⟨ws.heap.size, 4, none⟩ = some (.int .u32 g4) := hH3.cell 4 (by simp)
              have cF : w3.cell? ⟨ws.heap.size, 5, none⟩ = some (.int .u32 g5) := hH3.cell 5 (by simp)
              have cG : w3.cell? ⟨ws.heap.size, 6, none⟩ = some (.int .u32 g6) := hH3.cell 6 (by simp)
              have cH : w3.cell? ⟨ws.heap.size, 7, none⟩ = some (.int .u32 g7) := hH3.cell 7 (by simp)
              have HN : Hid (Arr .u32 69 w3 ws.heap.size [g0, g1, g2, g3, g4, g5, g6, g7] ∧ Below w.heap.size w w3 ∧ Blk 67 w3 w0.heap.size cs) := ⟨hH3, hB3, hT3⟩
              have HMM : Hid ((mx256 G bs).list = [(g0 + a) % 4294967296, (g1 + b) % 4294967296, (g2 + c) % 4294967296, (g3 + d) % 4294967296, (g4 + e) % 4294967296, (g5 + f) % 4294967296, (g6 + g) % 4294967296, (g7 + h) % 4294967296]) := hM
              have f0 := hH3.frozen 0
              have f1 := hH3.frozen 1
              have f2 := hH3.frozen 2
              have f3 := hH3.frozen 3
              have f4 := hH3.frozen 4
              have f5 := hH3.frozen 5
              have f6 := hH3.frozen 6
              have f7 := hH3.frozen 7
              clear hM hH3 hB3 hT3
              go_wp2_with fail
              obtain ⟨hA, hB3, hT3⟩ := HN.out
              have hU := (((((((Upd.set w3 ws.heap.size 0 (.int .u32 ((g0 + a) % 4294967296))).trans (Upd.set _ _ 1 (.int .u32 ((g1 + b) % 4294967296)))).trans (Upd.set _ _ 2 (.int .u32 ((g2 + c) % 4294967296)))).trans (Upd.set _ _ 3 (.int .u32 ((g3 + d) % 4294967296)))).trans (Upd.set _ _ 4 (.int .u32 ((g4 + e) % 4294967296)))).trans (Upd.set _ _ 5 (.int .u32 ((g5 + f) % 4294967296)))).trans (Upd.set _ _ 6 (.int .u32 ((g6 + g) % 4294967296)))).trans (Upd.set _ _ 7 (.int .u32 ((g7 + h) % 4294967296)))
              have hlw := HW.out.1.lt
              have hb0 := HB0.out.size
              refine ⟨⟨k + 1, q + 64, by go_num, by have := HQ.out.1; omega, by omega, ?_, ?_, ?_⟩, ?_⟩
              · have e5 : (run 2 M (k + 1)).words.list = [(g0 + a) % 4294967296, (g1 + b) % 4294967296, (g2 + c) % 4294967296, (g3 + d) % 4294967296, (g4 + e) % 4294967296, (g5 + f) % 4294967296, (g6 + g) % 4294967296, (g7 + h) % 4294967296] := by rw [HRUN.out, HG.out]; exact HMM.out
                rw [e5]
                exact (((((((hA.set 0 _).set 1 _).set 2 _).set 3 _).set 4 _).set 5 _).set 6 _).set 7 _
              · exact hU.blk hT3 (by omega)
              · exact hU.below hB3 hB3.size (by omega)
              · simp [intOf]; omega
    · have hkK : k = K := by omega
      subst hkK
      have hqn : q = n := by have := HX.out.2.2.2.2; omega
      subst hqn
      obtain ⟨s0, hs0⟩ : ∃ s, run 2 M k = s := ⟨_, rfl⟩
      rw [hs0] at hA
      have HQ : Hid (run 2 M k = s0 ∧ Arr .u32 69 w1 ws.heap.size s0.words.list ∧ Below w.heap.size w w1) := ⟨hs0, hA, hBw⟩
      have hws : w.heap.size ≤ ws.heap.size := by have h1 := HB0.out.size; have h2 := HW.out.2.size; omega
      clear hs0 hA hBw hq hT
      go_wp2
      go_loopw [22, 23] (fun ov iv wq => ∃ i : Nat, iv = .int .i64 i ∧ i ≤ 8 ∧ Row .u8 5 (ws.heap.size + 1) wq ov ((out 2 s0).take (4 * i)) ∧ Arr .u32 69 wq ws.heap.size s0.words.list ∧ Below w.heap.size w wq) (fun _ iv _ => 8 - (intOf iv).toNat)
      case atStart => exact ⟨0, rfl, by omega, Row.nil _ _ _ _, HQ.out.2.1, HQ.out.2.2⟩
      case round =>
        obtain ⟨i, rfl, hi, hR, hA, hB⟩ := hrel
        rename World => w2
        by_cases hi5 : i < 8
        · obtain ⟨x, hx⟩ : ∃ x, s0.words.list.getD i 0 = x := ⟨_, rfl⟩
          have hcx := hA.cell i (by exact hi5)
          rw [hx] at hcx
          have hiI : (i : Int) < 8 := by omega
          have HR : Hid (Row .u8 5 (ws.heap.size + 1) w2 u22 ((out 2 s0).take (4 * i)) ∧ Arr .u32 69 w2 ws.heap.size s0.words.list ∧ Below w.heap.size w w2 ∧ s0.words.list.getD i 0 = x) := ⟨hR, hA, hB, hx⟩
          clear hR hA hB hx
          have hrow : Row .u8 5 (ws.heap.size + 1) w2 u22 ((out 2 s0).take (4 * i)) := HR.out.1
          have hsz : ws.heap.size + 1 ≤ w2.heap.size := HR.out.2.1.lt
          have hwl : ws.heap.size < ws.heap.size + 1 := Nat.lt_succ_self _
          have HL : Hid (((out 2 s0).take (4 * i)).length ≤ 32) := by
            show _ ≤ _
            rw [List.length_take]
            have : (out 2 s0).length = 32 := out_len 2 s0
            omega
          go_upto_region 27 with (fail)
          go_region_held3 (fun w' => w'.cell? ⟨ws.heap.size, i, none⟩ = some (.int .u32 x)) (first | go_keep | (rw [hB1.cell (p := ⟨ws.heap.size, i, none⟩) hwl]; go_keep))
            ((refine step_ap (by rfl) (.tmp 226) (.tmp 246) 22 22 (by rfl) .u8 5 1 Tryz.und8 Tryz.info8 (by decide) (ws.heap.size + 1) _ ((out 2 s0).take (4 * i)) (by rfl) (Row.alloc (by assumption) _) _ [x / 16777216 % 256, x / 65536 % 256, x / 256 % 256, x % 256] (by rfl) (src_sl Tryz.und8 (Arr.sl (S := [x / 16777216 % 256, x / 65536 % 256, x / 256 % 256, x % 256]) (arr_nw rfl rfl))) (by have := HL.out; simp only [List.length_cons, List.length_nil]; omega) (by simp; omega) ?_; intro v5 w5 hr hg; have hB1 := hg.below (Row.alloc (by assumption) _) (by simp; omega)))
          all_goals go_wp2
          go_roundw
          case rel =>
            refine ⟨i + 1, by go_num, by omega, ?_⟩
            rw [out2_four s0 i x hi5 HR.out.2.2.2]
            have hl := HR.out.2.1.lt
            exact ⟨hr, below_arr hB1 hwl (below_arr ((al2' (Below.refl _ _)).drew) hl HR.out.2.1), (al2' HR.out.2.2.1).drew.trans (hB1.mono (by omega))⟩
          case measure => simp [intOf]; omega
        · obtain rfl : i = 8 := by omega
          rw [show (out 2 s0).take (4 * 8) = out 2 s0 from List.take_of_length_le (by rw [out_len]; decide)] at hR
          have HR : Hid (Row .u8 5 (ws.heap.size + 1) w2 u22 (out 2 s0) ∧ Below w.heap.size w w2) := ⟨hR, hB⟩
          clear hR hA hB
          go_wp2
          go_ret
          exact ⟨_, rfl, by rw [HQ.out.1]; exact HR.out.1.mono (by omega), HR.out.2⟩
end Go.Proofs.YtjmiaakfdclfjaaGreatDoor.Sh
/-
  Digest: the reference's table of roots of 64 bits.
-/
namespace Go.Proofs.YtjmiaakfdclfjaaGreatDoor.Sh
open Go.RowKit
set_option maxRecDepth 20000
theorem wpList_build_c {P : Program} {ops : Array Oper} {rest : List Oper} {o : Oper} {a : Act} {w : World} {Q : Exit → Act → World → Prop} (hg : o.guard = none) (t : TypeId) (parts : Array (Nat × Operand)) (ho : o.op = .build t parts) (cells : Array Value)
    (hf : P.built t (parts.map fun (i, x) => (i, a.eval x)).toList = some cells)
    (h : wpList P ops Q rest (a.put o.dst (.agg cells)) w) : wpList P ops Q (o :: rest) a w :=
  wpList_build hg t parts ho (by rw [hf]; rfl) (by rw [hf]; exact h)
set_option maxRecDepth 20000 in
set_option maxHeartbeats 1000000 in
theorem roots64_any {w : World} : Calls Tryz.prog 41 #[] w fun e w' => e = .returned (.agg (adds512L.map (Value.int .u64)).toArray) ∧ Below w.heap.size w w' := by
  have HS : Hid ((Tryz.prog.info? 70).map (·.size) = some (adds512L.map (Value.int .u64)).length) := Tryz.size80q
  have hB0 := Blk.new 70 w (List.replicate 80 (Value.int .u64 0))
  have HTh : Hid ((w.alloc (.cells (List.replicate 80 (Value.int .u64 0)).toArray 70)).there w.heap.size 0 (adds512L.map (Value.int .u64)).toArray.size) := hB0.there _ _ (by decide)
  have HF : Hid (Blk 70 ((w.alloc (.cells (List.replicate 80 (Value.int .u64 0)).toArray 70)).setCells w.heap.size 0 (adds512L.map (Value.int .u64))) w.heap.size (adds512L.map (Value.int .u64)) ∧ Below w.heap.size w ((w.alloc (.cells (List.replicate 80 (Value.int .u64 0)).toArray 70)).setCells w.heap.size 0 (adds512L.map (Value.int .u64)))) :=
    ⟨hB0.fill _ (by decide), (Upd.setCells _ _ _).below (al1 _) (al1 _).size (Nat.le_refl _)⟩
  clear hB0
  go_enter Tryz.func41, Tryz.ntmps41
  go_upto_region 1 with (fail)
  go_wp2_with (first
    | (refine wpList_build_c rfl 70 _ rfl (adds512L.map (Value.int .u64)).toArray (by kernel_rfl) ?_)
    | (refine wpList_store_mid rfl 70 (.tmp 0) (.tmp 1) rfl w.heap.size 0 (adds512L.map (Value.int .u64)).toArray rfl rfl HTh.out (by simpa using HS.out) (ints_one _ _) ?_))
  exact bodyPost_ret (v := .agg (adds512L.map (Value.int .u64)).toArray) (results_blk (b := w.heap.size) (cs := adds512L.map (Value.int .u64)) rfl rfl HF.out.1 Tryz.underlying70 rfl HS.out) rfl ⟨rfl, HF.out.2⟩
end Go.Proofs.YtjmiaakfdclfjaaGreatDoor.Sh
