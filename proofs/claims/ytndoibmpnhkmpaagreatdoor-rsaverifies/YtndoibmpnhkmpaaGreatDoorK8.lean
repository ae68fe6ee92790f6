/-
  Digest: the walk of mix512.
-/
import Derived.Test.YtndoibmpnhkmpaaGreatDoorK7
namespace Go.Proofs.YtndoibmpnhkmpaaGreatDoor.Sh
open Go.RowKit
set_option maxRecDepth 20000
theorem turns64_I (x i j k : Int) (w : World) (hx : U64 x) (hi : 1 ≤ i ∧ i ≤ 63) (hj : 1 ≤ j ∧ j ≤ 63) (hk : 1 ≤ k ∧ k ≤ 63) :
    Calls Tryz.prog 143 #[.int .u64 x, .int .i64 i, .int .i64 j, .int .i64 k] w fun e w' => e = .returned (.int .u64 (trn64 x i.toNat j.toNat k.toNat)) ∧ w' = w := by
  obtain ⟨i, rfl⟩ := Int.eq_ofNat_of_zero_le (show 0 ≤ i by omega)
  obtain ⟨j, rfl⟩ := Int.eq_ofNat_of_zero_le (show 0 ≤ j by omega)
  obtain ⟨k, rfl⟩ := Int.eq_ofNat_of_zero_le (show 0 ≤ k by omega)
  simp only [Int.toNat_natCast]
  exact (turns64_any x hx i j k (by omega) (by omega) (by omega)).mono fun _ _ h => ⟨h.1, h.2.symm⟩
theorem Tryz.one512 : (Tryz.prog.info? 79).map (·.size) = some 1 := by kernel_rfl
theorem Tryz.eight512 : (Tryz.prog.info? 80).map (·.size) = some 8 := by kernel_rfl
theorem adds512_len : adds512L.length = 80 := by decide
theorem mixed512 (s0 s1 s2 s3 s4 s5 s6 s7 a b c d e f g h : Int) (i : Nat) (hi : i < 8) : ([IntKind.u64.wrap (s0 + a), IntKind.u64.wrap (s1 + b), IntKind.u64.wrap (s2 + c), IntKind.u64.wrap (s3 + d), IntKind.u64.wrap (s4 + e), IntKind.u64.wrap (s5 + f), IntKind.u64.wrap (s6 + g), IntKind.u64.wrap (s7 + h)] : List Int).getD i 0 = IntKind.u64.wrap (([s0, s1, s2, s3, s4, s5, s6, s7] : List Int).getD i 0 + ([a, b, c, d, e, f, g, h] : List Int).getD i 0) := by
  match i, hi with
  | 0, _ => rfl
  | 1, _ => rfl
  | 2, _ => rfl
  | 3, _ => rfl
  | 4, _ => rfl
  | 5, _ => rfl
  | 6, _ => rfl
  | 7, _ => rfl
set_option maxRecDepth 4000 in
set_option maxHeartbeats 2000000 in
theorem mix512_any {w : World} (s : R8) (hs : s.ok U64) (b off len c : Nat) (bs : List Int) (hb : b < w.heap.size) (hr : Rd .u8 w b off bs) (ub : U8s bs) (hlen : bs.length ≤ len) (hlc : len ≤ c) (hbs : bs.length = 128) (hT : Tabs w) :
    Calls Tryz.prog 130 #[.agg (s.list.map (Value.int .u64)).toArray, .slice (some ⟨b, off, none⟩) len c] w fun e w' => e = .returned (.agg ((mx512 s bs).list.map (Value.int .u64)).toArray) ∧ Below w.heap.size w w' := by
  obtain ⟨s0, s1, s2, s3, s4, s5, s6, s7⟩ := s
  have HM : Hid (∀ r, rnd512 (sch512 bs 80) ⟨s0, s1, s2, s3, s4, s5, s6, s7⟩ 80 = r → (mx512 ⟨s0, s1, s2, s3, s4, s5, s6, s7⟩ bs).list = [IntKind.u64.wrap (s0 + r.a), IntKind.u64.wrap (s1 + r.b), IntKind.u64.wrap (s2 + r.c), IntKind.u64.wrap (s3 + r.d), IntKind.u64.wrap (s4 + r.e), IntKind.u64.wrap (s5 + r.f), IntKind.u64.wrap (s6 + r.g), IntKind.u64.wrap (s7 + r.h)]) := fun r h => by subst h; rfl
  have HK : Hid (∀ t, (rnd512 (sch512 bs 80) ⟨s0, s1, s2, s3, s4, s5, s6, s7⟩ t).ok U64) := fun t => rnd512_ok hs t
  have HT : Hid (Tabs w) := hT
  have hz7 := hT.size
  clear hT hs
  show Calls Tryz.prog _ #[.agg #[.int .u64 s0, .int .u64 s1, .int .u64 s2, .int .u64 s3, .int .u64 s4, .int .u64 s5, .int .u64 s6, .int .u64 s7], _] w _
  go_enter Tryz.func130, Tryz.ntmps130
  go_upto_region 1 with (fail)
  go_quiet (fail)
  go_upto_region 2 with (fail)
  go_quiet (fail)
  have hW0 : ∀ (o1 o2 : Obj) (n : Nat), Below w.heap.size w (((w.alloc o1).alloc o2).drewN n) := fun o1 o2 n => below_drewN _ (((Below.refl _ _).alloc (Nat.le_refl _) _).alloc (by simp) _)
  go_wp2_with (go_at_call 142; refine (words512_any b off len c bs (by simp; omega) (by exact below_rd (hW0 _ _ _) hb hr) ub hlen hlc hbs).mono ?_; rintro e w1 ⟨rfl, hb1⟩)
  have hB0 : Below w.heap.size w w1 := (hW0 _ _ _).trans (hb1.mono (by simp; omega))
  have hS1 : Blk 80 w1 w.heap.size [.int .u64 s0, .int .u64 s1, .int .u64 s2, .int .u64 s3, .int .u64 s4, .int .u64 s5, .int .u64 s6, .int .u64 s7] := below_blk hb1 (by simp; omega) ((Blk.new _ w _).alloc _)
  have hZ1 : Blk 80 w1 (w.heap.size + 1) [.int .u64 0, .int .u64 0, .int .u64 0, .int .u64 0, .int .u64 0, .int .u64 0, .int .u64 0, .int .u64 0] := below_blk hb1 (by simp) (by have := Blk.new 80 (w.alloc (.cells #[.int .u64 s0, .int .u64 s1, .int .u64 s2, .int .u64 s3, .int .u64 s4, .int .u64 s5, .int .u64 s6, .int .u64 s7] 80)) [.int .u64 0, .int .u64 0, .int .u64 0, .int .u64 0, .int .u64 0, .int .u64 0, .int .u64 0, .int .u64 0]; exact (by simpa using this : Blk 80 _ (w.heap.size + 1) _).drewN _)
  have HH : Hid (Below w.heap.size w w1 ∧ Blk 80 w1 w.heap.size [.int .u64 s0, .int .u64 s1, .int .u64 s2, .int .u64 s3, .int .u64 s4, .int .u64 s5, .int .u64 s6, .int .u64 s7] ∧ Blk 80 w1 (w.heap.size + 1) [.int .u64 0, .int .u64 0, .int .u64 0, .int .u64 0, .int .u64 0, .int .u64 0, .int .u64 0, .int .u64 0] ∧ Tabs w1) := ⟨hB0, hS1, hZ1, HT.out.below hB0⟩
  clear hb1 hB0 hS1 hZ1 hW0
  have hWl := sch512_len bs 80
  obtain ⟨W, hW⟩ : ∃ W, sch512 bs 80 = W := ⟨_, rfl⟩
  rw [hW] at HM HK hWl
  simp only [hW]
  clear hW
  go_loopw [5, 6, 7, 8, 9, 10, 11, 12, 37] (fun va vb vc vd ve vf vg vh iv wr => ∃ (t q : Nat), iv = .int .i64 t ∧ t ≤ 80 ∧ va = .int .u64 (rnd512 W ⟨s0, s1, s2, s3, s4, s5, s6, s7⟩ t).a ∧ vb = .int .u64 (rnd512 W ⟨s0, s1, s2, s3, s4, s5, s6, s7⟩ t).b ∧ vc = .int .u64 (rnd512 W ⟨s0, s1, s2, s3, s4, s5, s6, s7⟩ t).c ∧ vd = .int .u64 (rnd512 W ⟨s0, s1, s2, s3, s4, s5, s6, s7⟩ t).d ∧ ve = .int .u64 (rnd512 W ⟨s0, s1, s2, s3, s4, s5, s6, s7⟩ t).e ∧ vf = .int .u64 (rnd512 W ⟨s0, s1, s2, s3, s4, s5, s6, s7⟩ t).f ∧ vg = .int .u64 (rnd512 W ⟨s0, s1, s2, s3, s4, s5, s6, s7⟩ t).g ∧ vh = .int .u64 (rnd512 W ⟨s0, s1, s2, s3, s4, s5, s6, s7⟩ t).h ∧ wr = w1.drewN q) (fun _ _ _ _ _ _ _ _ iv _ => 80 - (intOf iv).toNat)
  case atStart => exact ⟨0, 0, rfl, by omega, rfl, rfl, rfl, rfl, rfl, rfl, rfl, rfl, rfl⟩
  case round =>
    obtain ⟨t, q, rfl, ht, rfl, rfl, rfl, rfl, rfl, rfl, rfl, rfl, hwr⟩ := hrel
    have HW : Hid (wr = w1.drewN q) := hwr
    clear hwr
    obtain ⟨r, hrr⟩ : ∃ r, rnd512 W ⟨s0, s1, s2, s3, s4, s5, s6, s7⟩ t = r := ⟨_, rfl⟩
    have hok := HK.out t
    have HR : Hid (rnd512 W ⟨s0, s1, s2, s3, s4, s5, s6, s7⟩ t = r) := hrr
    rw [hrr] at hok
    simp only [hrr]
    clear hrr
    obtain ⟨a, b, c, d, e, f, g, h⟩ := r
    have HU : Hid (U64 a ∧ U64 e) := ⟨hok.1, hok.2.2.2.2.1⟩
    clear hok
    by_cases hlt : t < 80
    · have hk : wr.cell? ⟨7, t, none⟩ = some (.int .u64 (adds512L.getD t 0)) := by
        rw [HW.out]
        have := HH.out.2.2.2.a512 t (by rw [adds512_len]; exact hlt)
        simpa using this
      have hx : ∀ w' : World, Sem.run Tryz.prog (Instr.index 116 (.agg (W.map (Value.int .u64)).toArray) (.int .i64 t)) w' = .ok (.int .u64 (W.getD t 0)) w' := fun w' => run_index_row w' _ _ 80 .u64 W t Tryz.underlying116 Tryz.underlying79 Tryz.one512 hWl hlt
      obtain ⟨k, hk0⟩ : ∃ k, adds512L.getD t 0 = k := ⟨_, rfl⟩
      obtain ⟨x, hx0⟩ : ∃ x, W.getD t 0 = x := ⟨_, rfl⟩
      rw [hk0] at hk
      rw [hx0] at hx
      have HV : Hid (rnd512 W ⟨s0, s1, s2, s3, s4, s5, s6, s7⟩ (t + 1) = ⟨IntKind.u64.wrap (IntKind.u64.wrap (IntKind.u64.wrap (IntKind.u64.wrap (IntKind.u64.wrap (h + trn64 e 14 18 41) + bits .xor .u64 (bits .and .u64 e f) (bits .and .u64 (bits .xor .u64 IntKind.u64.max e) g)) + k) + x) + IntKind.u64.wrap (trn64 a 28 34 39 + bits .xor .u64 (bits .xor .u64 (bits .and .u64 a b) (bits .and .u64 a c)) (bits .and .u64 b c))), a, b, c, IntKind.u64.wrap (d + IntKind.u64.wrap (IntKind.u64.wrap (IntKind.u64.wrap (IntKind.u64.wrap (h + trn64 e 14 18 41) + bits .xor .u64 (bits .and .u64 e f) (bits .and .u64 (bits .xor .u64 IntKind.u64.max e) g)) + k) + x)), e, f, g⟩) := by
        show stp512 W t _ = _
        rw [HR.out]; unfold stp512; simp only []; rw [hk0, hx0]
      clear hk0 hx0
      have ht0 : (t : Int) < 80 := by omega
      go_upto_region 6 with (fail)
      go_quiet ((go_at_call 143; exact Calls.quiet_of_same (turns64_I _ _ _ _ _ HU.out.2 (by omega) (by omega) (by omega))))
      go_wp2_with (go_at_call 143; refine (turns64_I _ _ _ _ _ HU.out.1 (by omega) (by omega) (by omega)).mono ?_; rintro e' w' ⟨rfl, rfl⟩)
      go_roundw
      case rel =>
        refine ⟨t + 1, q + nq, by go_num, by omega, ?_⟩
        rw [HV.out]
        simp only [show (if IntKind.u64.signed = true then (-1 : Int) else IntKind.u64.max) = IntKind.u64.max from rfl, true_and]
        rw [HW.out, World.drewN_drewN]
      case measure => simp [intOf]; omega
    · obtain rfl : t = 80 := by omega
      have hM := HM.out _ HR.out
      obtain ⟨L, hL⟩ : ∃ L, (mx512 ⟨s0, s1, s2, s3, s4, s5, s6, s7⟩ bs).list = L := ⟨_, rfl⟩
      rw [hL] at hM
      have HL : Hid ((mx512 ⟨s0, s1, s2, s3, s4, s5, s6, s7⟩ bs).list = L) := hL
      have hLl : L.length = 8 := by rw [hM]; rfl
      have HX : Hid (∀ i, i < 8 → L.getD i 0 = IntKind.u64.wrap (([s0, s1, s2, s3, s4, s5, s6, s7] : List Int).getD i 0 + ([a, b, c, d, e, f, g, h] : List Int).getD i 0)) := fun i hi => by rw [hM]; exact mixed512 _ _ _ _ _ _ _ _ _ _ _ _ _ _ _ _ i hi
      have HI : Hid (Below w.heap.size w wr ∧ Arr .u64 80 wr w.heap.size (L.take 0 ++ ([s0, s1, s2, s3, s4, s5, s6, s7] : List Int).drop 0) ∧ Blk 80 wr (w.heap.size + 1) [.int .u64 0, .int .u64 0, .int .u64 0, .int .u64 0, .int .u64 0, .int .u64 0, .int .u64 0, .int .u64 0]) := by
        rw [HW.out]; exact ⟨below_drewN q HH.out.1, HH.out.2.1, HH.out.2.2.1⟩
      clear hM hL
      go_wp2_with fail
      go_loopw [96] (fun iv wr => ∃ i : Nat, iv = .int .i64 i ∧ i ≤ 8 ∧ Arr .u64 80 wr w.heap.size (L.take i ++ ([s0, s1, s2, s3, s4, s5, s6, s7] : List Int).drop i) ∧ Blk 80 wr (w.heap.size + 1) [.int .u64 0, .int .u64 0, .int .u64 0, .int .u64 0, .int .u64 0, .int .u64 0, .int .u64 0, .int .u64 0] ∧ Below w.heap.size w wr) (fun iv _ => 8 - (intOf iv).toNat)
      case atStart => exact ⟨0, rfl, by omega, HI.out.2.1, HI.out.2.2, HI.out.1⟩
      case round =>
        obtain ⟨i, rfl, hi, hA, hZ, hBw⟩ := hrel
        by_cases hi8 : i < 8
        · have hlen8 : (L.take i ++ ([s0, s1, s2, s3, s4, s5, s6, s7] : List Int).drop i).length = 8 := by simp [hLl]; omega
          have hset := mixset L [s0, s1, s2, s3, s4, s5, s6, s7] i hLl rfl hi8
          have hc0 := hA.cell i (by omega)
          have e0 := mixget L [s0, s1, s2, s3, s4, s5, s6, s7] i hLl rfl hi8
          rw [e0] at hc0
          have hf0 := hA.frozen i
          have hx2 : ∀ w' : World, Sem.run Tryz.prog (Instr.index 80 (.agg #[.int .u64 a, .int .u64 b, .int .u64 c, .int .u64 d, .int .u64 e, .int .u64 f, .int .u64 g, .int .u64 h]) (.int .i64 i)) w' = .ok (.int .u64 (([a, b, c, d, e, f, g, h] : List Int).getD i 0)) w' := fun w' => run_index_row w' _ _ 8 .u64 [a, b, c, d, e, f, g, h] i Tryz.underlying80 Tryz.underlying79 Tryz.one512 rfl hi8
          have hX := HX.out i hi8
          obtain ⟨o, ho⟩ : ∃ o, ([s0, s1, s2, s3, s4, s5, s6, s7] : List Int).getD i 0 = o := ⟨_, rfl⟩
          obtain ⟨x, hx0⟩ : ∃ x, ([a, b, c, d, e, f, g, h] : List Int).getD i 0 = x := ⟨_, rfl⟩
          rw [ho] at hc0 hX
          rw [hx0] at hx2 hX
          have HV : Hid (L.getD i 0 = IntKind.u64.wrap (o + x)) := hX
          have HN : Hid (Arr .u64 80 wr w.heap.size (L.take i ++ ([s0, s1, s2, s3, s4, s5, s6, s7] : List Int).drop i) ∧ Blk 80 wr (w.heap.size + 1) [.int .u64 0, .int .u64 0, .int .u64 0, .int .u64 0, .int .u64 0, .int .u64 0, .int .u64 0, .int .u64 0] ∧ Below w.heap.size w wr ∧ (L.take i ++ ([s0, s1, s2, s3, s4, s5, s6, s7] : List Int).drop i).set i (L.getD i 0) = L.take (i + 1) ++ ([s0, s1, s2, s3, s4, s5, s6, s7] : List Int).drop (i + 1)) := ⟨hA, hZ, hBw, hset⟩
          clear hX hA hZ hBw hset hlen8 e0 ho hx0
          have hi0 : (i : Int) < 8 := by omega
          go_wp2
          go_roundw
          case rel =>
            obtain ⟨hA, hZ, hBw, hset⟩ := HN.out
            refine ⟨i + 1, by go_num, by omega, ?_, (Upd.set _ _ _ _).blk hZ (by omega), (Upd.set wr w.heap.size i _).below hBw hBw.size (Nat.le_refl _)⟩
            have := hA.set i (L.getD i 0)
            rw [hset, HV.out] at this; exact this
          case measure => simp [intOf]; omega
        · obtain rfl : i = 8 := by omega
          obtain ⟨cs, hcs⟩ : ∃ cs, L.map (Value.int .u64) = cs := ⟨_, rfl⟩
          have hA2 : Blk 80 wr w.heap.size cs := by
            have := hA.blk
            rw [List.take_of_length_le (by omega), List.drop_of_length_le (by simp), List.append_nil, hcs] at this; exact this
          have hlc : cs.length = 8 := by rw [← hcs]; simp [hLl]
          have HO : Hid (cs.toArray.all (·.oneCell') = true) := by rw [← hcs]; exact ints_one _ _
          have HC : Hid ((mx512 ⟨s0, s1, s2, s3, s4, s5, s6, s7⟩ bs).list.map (Value.int .u64) = cs) := by rw [HL.out]; exact hcs
          have HF : Hid (Blk 80 (wr.setCells (w.heap.size + 1) 0 cs) (w.heap.size + 1) cs ∧ Below w.heap.size w (wr.setCells (w.heap.size + 1) 0 cs)) := ⟨hZ.fill cs (by rw [hlc]; rfl), (Upd.setCells cs 0 wr).below hBw hBw.size (by omega)⟩
          have HS2 : Hid (wr.rangeAt w.heap.size 0 cs ∧ wr.there (w.heap.size + 1) 0 cs.toArray.size) := ⟨hA2.whole, hZ.there 0 _ (by simp [hlc])⟩
          have HSz : Hid ((Tryz.prog.info? 80).map (·.size) = some cs.length) := by rw [hlc]; exact Tryz.eight512
          clear hA2 hZ hBw hlc hcs hA
          go_wp2_with (first
            | (refine wpList_load_mid rfl _ _ rfl w.heap.size 0 rfl cs _ HS2.out.1 Tryz.underlying80 rfl HSz.out ?_)
            | (refine wpList_store_mid rfl _ _ _ rfl (w.heap.size + 1) 0 cs.toArray rfl rfl HS2.out.2 (by simpa using HSz.out) HO.out ?_))
          refine bodyPost_ret (v := .agg cs.toArray) (results_blk (b := w.heap.size + 1) (cs := cs) rfl rfl HF.out.1 Tryz.underlying80 rfl HSz.out) rfl ⟨by rw [HC.out], HF.out.2⟩
end Go.Proofs.YtndoibmpnhkmpaaGreatDoor.Sh
/-
  Digest: a Hash in memory; copy into a block; Size, Block, and the method mix.
-/
namespace Go.Proofs.YtndoibmpnhkmpaaGreatDoor.Sh
open Go.RowKit
set_option maxRecDepth 20000
theorem Tryz.und8 : Tryz.prog.underlying 25 = some (.slice 5) := by kernel_rfl
theorem Tryz.one8 : (Tryz.prog.info? 5).map (·.size) = some 1 := by kernel_rfl
theorem over_nil (cs : List Value) (o : Nat) : over cs o [] = cs := by simp [over]
/-- 'copy(dst, src)', dst at a place of a whole block. -/
theorem wpList_cpB {P : Program} {w : World} {ops : Array Oper} {rest : List Oper} {o : Oper} {a : Act} {Q : Exit → Act → World → Prop} (hgd : o.guard = none) (d s : Operand) (t : TypeId)
    (ho : o.op = .call { callee := .builtin .copy, args := #[d, s], argTypes := #[t, t] }) (k : IntKind) (e T : TypeId) (hu : P.underlying t = some (.slice e)) (hsz : (P.info? e).map (·.size) = some 1)
    (g off dLen dCap : Nat) (cs : List Value) (xs : List Int) (hA : Blk T w g cs) (v : Value) (hd : a.eval d = .slice (some ⟨g, off, none⟩) dLen dCap) (hs : a.eval s = v) (hx : Sl k w v xs)
    (n : Nat) (hn : n = Nat.min xs.length dLen) (hfit : off + n ≤ cs.length)
    (h : ∀ w', Blk T w' g (over cs off ((xs.take n).map (Value.int k))) → Upd w w' g → wpList P ops Q rest (a.put o.dst (goInt n)) w') :
    wpList P ops Q (o :: rest) a w := by
  obtain ⟨sp, sCap, rfl, _, hx⟩ := hx
  have hr' : n ≤ xs.length := by rw [hn]; exact Nat.min_le_left _ _
  have hlen : ((xs.take n).map (Value.int k)).length = n := by simp; omega
  by_cases h0 : n = 0
  · refine wpList_copy_nothing hgd d s t t ho e hu hsz _ sp dLen dCap xs.length sCap hd hs (by omega) ?_
    subst h0
    exact h w (by simpa [over_nil] using hA) (Upd.refl _ _)
  · rcases hx with rfl | ⟨b, ob, rfl, hb, hr⟩
    · simp at hn; omega
    · refine wpList_copy_own (P := P) hgd d s t t ho e hu hsz g off dLen dCap ⟨b, ob, none⟩ xs.length sCap hd hs _ T hA ((xs.take n).map (Value.int k)) (by rw [hlen, hn])
        (fun j u hj => ?_) (by simp only [hlen, List.size_toArray]; exact hfit) (fun u hu => by obtain ⟨x, _, rfl⟩ := List.mem_map.1 hu; rfl) ?_
      · have hjn : j < n := by rw [← hlen]; exact (List.getElem?_eq_some_iff.1 hj).1
        have hadd : (⟨b, ob, none⟩ : Addr).add j = ⟨b, ob + j, none⟩ := by simp [Addr.add]
        rw [hadd, hr j (by omega), ← hj]
        simp [hjn, show j < xs.length by omega]
      · rw [hlen]
        have e1 : (cs.toArray.toList.take off ++ ((xs.take n).map (Value.int k) ++ cs.toArray.toList.drop (off + n))) = over cs off ((xs.take n).map (Value.int k)) := by unfold over; rw [hlen]
        rw [e1]
        exact h _ (by unfold Blk; exact setRow_heap w g _ _ T _ hA) ⟨rfl, rfl, rfl, by simp [World.setRow], fun j _ hj => setRow_other w g j _ (fun e => hj (by simp [e]))⟩
/-- How many bytes a block has, and a digest. -/
def blk (alg : Int) : Nat := if alg = 1 then 64 else if alg = 2 then 64 else if alg = 3 then 128 else if alg = 4 then 128 else 0
def siz (alg : Int) : Nat := if alg = 1 then 20 else if alg = 2 then 32 else if alg = 3 then 48 else if alg = 4 then 64 else 0
def Alg (alg : Int) : Prop := alg = 1 ∨ alg = 2 ∨ alg = 3 ∨ alg = 4
theorem ShaBlock_any {w : World} (alg : Int) : Calls Tryz.prog 114 #[.int .i64 alg] w fun e w' => e = .returned (.int .i64 (blk alg)) ∧ w' = w := by
  unfold blk
  by_cases h1 : alg = 1
  · subst h1; go_enter Tryz.func114, Tryz.ntmps114; go_wp2; go_ret; exact ⟨rfl, rfl⟩
  by_cases h2 : alg = 2
  · subst h2; go_enter Tryz.func114, Tryz.ntmps114; go_wp2; go_ret; exact ⟨rfl, rfl⟩
  by_cases h3 : alg = 3
  · subst h3; go_enter Tryz.func114, Tryz.ntmps114; go_wp2; go_ret; exact ⟨rfl, rfl⟩
  by_cases h4 : alg = 4
  · subst h4; go_enter Tryz.func114, Tryz.ntmps114; go_wp2; go_ret; exact ⟨rfl, rfl⟩
  rw [if_neg h1, if_neg h2, if_neg h3, if_neg h4]
  go_enter Tryz.func114, Tryz.ntmps114; go_wp2; go_ret; exact ⟨rfl, rfl⟩
theorem ShaSize_any {w : World} (alg : Int) : Calls Tryz.prog 83 #[.int .i64 alg] w fun e w' => e = .returned (.int .i64 (siz alg)) ∧ w' = w := by
  unfold siz
  by_cases h1 : alg = 1
  · subst h1; go_enter Tryz.func83, Tryz.ntmps83; go_wp2; go_ret; exact ⟨rfl, rfl⟩
  by_cases h2 : alg = 2
  · subst h2; go_enter Tryz.func83, Tryz.ntmps83; go_wp2; go_ret; exact ⟨rfl, rfl⟩
  by_cases h3 : alg = 3
  · subst h3; go_enter Tryz.func83, Tryz.ntmps83; go_wp2; go_ret; exact ⟨rfl, rfl⟩
  by_cases h4 : alg = 4
  · subst h4; go_enter Tryz.func83, Tryz.ntmps83; go_wp2; go_ret; exact ⟨rfl, rfl⟩
  rw [if_neg h1, if_neg h2, if_neg h3, if_neg h4]
  go_enter Tryz.func83, Tryz.ntmps83; go_wp2; go_ret; exact ⟨rfl, rfl⟩
theorem Block_any {w : World} (alg : Int) : Calls Tryz.prog 112 #[.int .i64 alg] w fun e w' => e = .returned (.int .i64 (blk alg)) ∧ w' = w := by
  have HBl : Hid (∀ w' : World, Calls Tryz.prog 114 #[.int .i64 alg] w' fun e w'' => e = .returned (.int .i64 (blk alg)) ∧ w' = w'') := fun w' => (ShaBlock_any alg).mono fun _ _ h => ⟨h.1, h.2.symm⟩
  go_enter Tryz.func112, Tryz.ntmps112
  go_wp2_with (go_at_call 114; refine (HBl.out _).mono ?_; rintro e w' ⟨rfl, rfl⟩)
  go_ret
  exact ⟨rfl, rfl⟩
theorem Size_any {w : World} (alg : Int) : Calls Tryz.prog 45 #[.int .i64 alg] w fun e w' => e = .returned (.int .i64 (siz alg)) ∧ w' = w := by
  have HBl : Hid (∀ w' : World, Calls Tryz.prog 83 #[.int .i64 alg] w' fun e w'' => e = .returned (.int .i64 (siz alg)) ∧ w' = w'') := fun w' => (ShaSize_any alg).mono fun _ _ h => ⟨h.1, h.2.symm⟩
  go_enter Tryz.func45, Tryz.ntmps45
  go_wp2_with (go_at_call 83; refine (HBl.out _).mono ?_; rintro e w' ⟨rfl, rfl⟩)
  go_ret
  exact ⟨rfl, rfl⟩
/-- What a Hash holds. -/
structure Hs where
  alg : Int
  total : Nat
  words : R8
  wide : R8
  rest : List Int
structure Hs.ok (h : Hs) : Prop where
  words : h.words.ok U32
  wide : h.wide.ok U64
  len : h.rest.length = 128
  bytes : U8s h.rest
def Hs.cells (h : Hs) : List Value := .int .i64 h.alg :: .int .i64 h.total :: (h.words.list.map (Value.int .u32) ++ (h.wide.list.map (Value.int .u64) ++ h.rest.map (Value.int .u8)))
def Hs.mixed (h : Hs) (bs : List Int) : Hs :=
  if h.alg = 1 then { h with words := mx1 h.words bs } else if h.alg = 2 then { h with words := mx256 h.words bs } else { h with wide := mx512 h.wide bs }
variable {HT : TypeId}
theorem Hs.cells_len {h : Hs} (hl : h.rest.length = 128) : h.cells.length = 146 := by simp [Hs.cells, R8.list, hl]
theorem Hs.mixed_ok {h : Hs} (hk : h.ok) (bs : List Int) : (h.mixed bs).ok := by
  unfold Hs.mixed
  split
  · exact ⟨mx1_ok hk.words bs, hk.wide, hk.len, hk.bytes⟩
  · split
    · exact ⟨mx256_ok bs, hk.wide, hk.len, hk.bytes⟩
    · exact ⟨hk.words, mx512_ok bs, hk.len, hk.bytes⟩
theorem Hs.range_words (h : Hs) : (h.cells.drop 2).take (h.words.list.map (Value.int .u32)).length = h.words.list.map (Value.int .u32) := by
  simp [Hs.cells, R8.list]
theorem Hs.range_wide (h : Hs) : (h.cells.drop 10).take (h.wide.list.map (Value.int .u64)).length = h.wide.list.map (Value.int .u64) := by
  simp [Hs.cells, R8.list]
theorem Hs.over_words (h : Hs) (r : R8) : over h.cells 2 (r.list.map (Value.int .u32)) = { h with words := r }.cells := by
  simp [over, Hs.cells, R8.list]
theorem Hs.over_wide (h : Hs) (r : R8) : over h.cells 10 (r.list.map (Value.int .u64)) = { h with wide := r }.cells := by
  simp [over, Hs.cells, R8.list]
end Go.Proofs.YtndoibmpnhkmpaaGreatDoor.Sh
/-
  Digest: the method mix.
-/
namespace Go.Proofs.YtndoibmpnhkmpaaGreatDoor.Sh
open Go.RowKit
set_option maxRecDepth 20000
variable {HT : TypeId}
theorem below_upd {w w' : World} {b : Nat} (h : Below w.heap.size w w') : Upd w w' b := ⟨h.1, h.2, h.3, h.size, fun k hk _ => h.block k hk⟩

set_option maxHeartbeats 1000000 in
theorem mixM_1 {w : World} (h : Hs) (hk : h.ok) (ha : h.alg = 1) (g : Nat) (hG : Blk HT w g h.cells) (hT : Tabs w) (c off len cap : Nat) (bs : List Int) (hc : c < w.heap.size) (hr : Rd .u8 w c off bs) (ub : U8s bs) (hlen : bs.length ≤ len) (hlc : len ≤ cap) (hbs : bs.length = 64) :
    Calls Tryz.prog 115 #[.pointer (some ⟨g, 0, none⟩), .slice (some ⟨c, off, none⟩) len cap] w fun e w' => e = .returned (.tuple #[]) ∧ Blk HT w' g { h with words := mx1 h.words bs }.cells ∧ Upd w w' g := by
  have hc0 : w.cell? ⟨g, 0, none⟩ = some (.int .i64 h.alg) := hG.cell 0
  rw [ha] at hc0
  have HG : Hid (w.rangeAt g 2 (h.words.list.map (Value.int .u32))) := hG.range 2 _ h.range_words
  have HB : Hid (∀ w1, Below w.heap.size w w1 → w1.there g 2 ((mx1 h.words bs).list.map (Value.int .u32)).toArray.size ∧ Blk HT (w1.setCells g 2 ((mx1 h.words bs).list.map (Value.int .u32))) g { h with words := mx1 h.words bs }.cells ∧ Upd w (w1.setCells g 2 ((mx1 h.words bs).list.map (Value.int .u32))) g) := fun w1 h1 => by
    have hb1 := below_blk h1 hG.lt hG
    have hl := Hs.cells_len hk.len
    refine ⟨hb1.there _ _ (by simp [hl, R8.list]), ?_, (below_upd h1).trans (Upd.setCells _ _ _)⟩
    rw [← h.over_words]
    exact hb1.setCells _ _ (by simp [hl, R8.list])
  have HS : Hid (∀ r : R8, (Tryz.prog.info? 115).map (·.size) = some (r.list.map (Value.int .u32)).length) := fun r => Tryz.size8w
  have HX := fun w' (hw : w' = w) => mix1_any (w := w') h.words hk.words c off len cap bs (by rw [hw]; exact hc) (by rw [hw]; exact hr) ub hlen hlc hbs (by rw [hw]; exact hT)
  have HX2 : Hid (∀ w', w' = w → Calls Tryz.prog _ _ w' _) := HX
  clear HX hr hT
  go_enter Tryz.func115, Tryz.ntmps115
  go_wp2_with (first
    | (refine wpList_load_mid rfl _ _ rfl g 2 rfl (h.words.list.map (Value.int .u32)) _ HG.out Tryz.underlying115 rfl (HS.out _) ?_)
    | (go_at_call 128; refine (HX2.out _ rfl).mono ?_; rintro e w1 ⟨rfl, hb1⟩; have HB1 := HB.out w1 hb1; have HB2 : Hid _ := HB1; clear HB1 hb1)
    | (refine wpList_store_mid rfl _ _ _ rfl g 2 ((mx1 h.words bs).list.map (Value.int .u32)).toArray rfl rfl HB2.out.1 (by simpa using HS.out (mx1 h.words bs)) (ints_one _ _) ?_))
  exact bodyPost_end (v := .tuple #[]) (results_none rfl _ _ _) rfl ⟨rfl, HB2.out.2.1, HB2.out.2.2⟩

set_option maxHeartbeats 1000000 in
theorem mixM_2 {w : World} (h : Hs) (hk : h.ok) (ha : h.alg = 2) (g : Nat) (hG : Blk HT w g h.cells) (hT : Tabs w) (c off len cap : Nat) (bs : List Int) (hc : c < w.heap.size) (hr : Rd .u8 w c off bs) (ub : U8s bs) (hlen : bs.length ≤ len) (hlc : len ≤ cap) (hbs : bs.length = 64) :
    Calls Tryz.prog 115 #[.pointer (some ⟨g, 0, none⟩), .slice (some ⟨c, off, none⟩) len cap] w fun e w' => e = .returned (.tuple #[]) ∧ Blk HT w' g { h with words := mx256 h.words bs }.cells ∧ Upd w w' g := by
  have hc0 : w.cell? ⟨g, 0, none⟩ = some (.int .i64 h.alg) := hG.cell 0
  rw [ha] at hc0
  have HG : Hid (w.rangeAt g 2 (h.words.list.map (Value.int .u32))) := hG.range 2 _ h.range_words
  have HB : Hid (∀ w1, Below w.heap.size w w1 → w1.there g 2 ((mx256 h.words bs).list.map (Value.int .u32)).toArray.size ∧ Blk HT (w1.setCells g 2 ((mx256 h.words bs).list.map (Value.int .u32))) g { h with words := mx256 h.words bs }.cells ∧ Upd w (w1.setCells g 2 ((mx256 h.words bs).list.map (Value.int .u32))) g) := fun w1 h1 => by
    have hb1 := below_blk h1 hG.lt hG
    have hl := Hs.cells_len hk.len
    refine ⟨hb1.there _ _ (by simp [hl, R8.list]), ?_, (below_upd h1).trans (Upd.setCells _ _ _)⟩
    rw [← h.over_words]
    exact hb1.setCells _ _ (by simp [hl, R8.list])
  have HS : Hid (∀ r : R8, (Tryz.prog.info? 115).map (·.size) = some (r.list.map (Value.int .u32)).length) := fun r => Tryz.size8w
  have HX := fun w' (hw : w' = w) => mix256_any (w := w') h.words hk.words c off len cap bs (by rw [hw]; exact hc) (by rw [hw]; exact hr) ub hlen hlc hbs (by rw [hw]; exact hT)
  have HX2 : Hid (∀ w', w' = w → Calls Tryz.prog _ _ w' _) := HX
  clear HX hr hT
  go_enter Tryz.func115, Tryz.ntmps115
  go_wp2_with (first
    | (refine wpList_load_mid rfl _ _ rfl g 2 rfl (h.words.list.map (Value.int .u32)) _ HG.out Tryz.underlying115 rfl (HS.out _) ?_)
    | (go_at_call 129; refine (HX2.out _ rfl).mono ?_; rintro e w1 ⟨rfl, hb1⟩; have HB1 := HB.out w1 hb1; have HB2 : Hid _ := HB1; clear HB1 hb1)
    | (refine wpList_store_mid rfl _ _ _ rfl g 2 ((mx256 h.words bs).list.map (Value.int .u32)).toArray rfl rfl HB2.out.1 (by simpa using HS.out (mx256 h.words bs)) (ints_one _ _) ?_))
  exact bodyPost_end (v := .tuple #[]) (results_none rfl _ _ _) rfl ⟨rfl, HB2.out.2.1, HB2.out.2.2⟩

set_option maxHeartbeats 1000000 in
theorem mixM_512 {w : World} (h : Hs) (hk : h.ok) (h1 : ¬ h.alg = 1) (h2 : ¬ h.alg = 2) (g : Nat) (hG : Blk HT w g h.cells) (hT : Tabs w) (c off len cap : Nat) (bs : List Int) (hc : c < w.heap.size) (hr : Rd .u8 w c off bs) (ub : U8s bs) (hlen : bs.length ≤ len) (hlc : len ≤ cap) (hbs : bs.length = 128) :
    Calls Tryz.prog 115 #[.pointer (some ⟨g, 0, none⟩), .slice (some ⟨c, off, none⟩) len cap] w fun e w' => e = .returned (.tuple #[]) ∧ Blk HT w' g { h with wide := mx512 h.wide bs }.cells ∧ Upd w w' g := by
  have hc0 : w.cell? ⟨g, 0, none⟩ = some (.int .i64 h.alg) := hG.cell 0
  skip
  have HG : Hid (w.rangeAt g 10 (h.wide.list.map (Value.int .u64))) := hG.range 10 _ h.range_wide
  have HB : Hid (∀ w1, Below w.heap.size w w1 → w1.there g 10 ((mx512 h.wide bs).list.map (Value.int .u64)).toArray.size ∧ Blk HT (w1.setCells g 10 ((mx512 h.wide bs).list.map (Value.int .u64))) g { h with wide := mx512 h.wide bs }.cells ∧ Upd w (w1.setCells g 10 ((mx512 h.wide bs).list.map (Value.int .u64))) g) := fun w1 h1 => by
    have hb1 := below_blk h1 hG.lt hG
    have hl := Hs.cells_len hk.len
    refine ⟨hb1.there _ _ (by simp [hl, R8.list]), ?_, (below_upd h1).trans (Upd.setCells _ _ _)⟩
    rw [← h.over_wide]
    exact hb1.setCells _ _ (by simp [hl, R8.list])
  have HS : Hid (∀ r : R8, (Tryz.prog.info? 80).map (·.size) = some (r.list.map (Value.int .u64)).length) := fun r => Tryz.eight512
  have HX := fun w' (hw : w' = w) => mix512_any (w := w') h.wide hk.wide c off len cap bs (by rw [hw]; exact hc) (by rw [hw]; exact hr) ub hlen hlc hbs (by rw [hw]; exact hT)
  have HX2 : Hid (∀ w', w' = w → Calls Tryz.prog _ _ w' _) := HX
  clear HX hr hT
  go_enter Tryz.func115, Tryz.ntmps115
  go_wp2_with (first
    | (refine wpList_load_mid rfl _ _ rfl g 10 rfl (h.wide.list.map (Value.int .u64)) _ HG.out Tryz.underlying80 rfl (HS.out _) ?_)
    | (go_at_call 130; refine (HX2.out _ rfl).mono ?_; rintro e w1 ⟨rfl, hb1⟩; have HB1 := HB.out w1 hb1; have HB2 : Hid _ := HB1; clear HB1 hb1)
    | (refine wpList_store_mid rfl _ _ _ rfl g 10 ((mx512 h.wide bs).list.map (Value.int .u64)).toArray rfl rfl HB2.out.1 (by simpa using HS.out (mx512 h.wide bs)) (ints_one _ _) ?_))
  exact bodyPost_end (v := .tuple #[]) (results_none rfl _ _ _) rfl ⟨rfl, HB2.out.2.1, HB2.out.2.2⟩

theorem mixM_any {w : World} (h : Hs) (hk : h.ok) (ha : Alg h.alg) (g : Nat) (hG : Blk HT w g h.cells) (hT : Tabs w) (c off len cap : Nat) (bs : List Int) (hc : c < w.heap.size) (hr : Rd .u8 w c off bs) (ub : U8s bs) (hlen : bs.length ≤ len) (hlc : len ≤ cap) (hbs : bs.length = blk h.alg) :
    Calls Tryz.prog 115 #[.pointer (some ⟨g, 0, none⟩), .slice (some ⟨c, off, none⟩) len cap] w fun e w' => e = .returned (.tuple #[]) ∧ Blk HT w' g (h.mixed bs).cells ∧ Upd w w' g := by
  unfold Hs.mixed
  by_cases h1 : h.alg = 1
  · rw [if_pos h1]; exact mixM_1 h hk h1 g hG hT c off len cap bs hc hr ub hlen hlc (by rw [hbs, h1]; rfl)
  · rw [if_neg h1]
    by_cases h2 : h.alg = 2
    · rw [if_pos h2]; exact mixM_2 h hk h2 g hG hT c off len cap bs hc hr ub hlen hlc (by rw [hbs, h2]; rfl)
    · rw [if_neg h2]
      refine mixM_512 h hk h1 h2 g hG hT c off len cap bs hc hr ub hlen hlc ?_
      rw [hbs]
      rcases ha with h | h | h | h
      · exact absurd h h1
      · exact absurd h h2
      · rw [h]; rfl
      · rw [h]; rfl
end Go.Proofs.YtndoibmpnhkmpaaGreatDoor.Sh
/-
  Digest: messages, and the state that their blocks make; no Go text in sight.
-/
namespace Go.Proofs.YtndoibmpnhkmpaaGreatDoor.Sh
open Go.RowKit
set_option maxRecDepth 20000
def R8.of (xs : List Int) : R8 := ⟨xs.getD 0 0, xs.getD 1 0, xs.getD 2 0, xs.getD 3 0, xs.getD 4 0, xs.getD 5 0, xs.getD 6 0, xs.getD 7 0⟩
def R8.zero : R8 := ⟨0, 0, 0, 0, 0, 0, 0, 0⟩
/-- The first state: words, and wide ones. -/
def firstW (alg : Int) : R8 := if alg = 1 then R8.of first1L else if alg = 2 then R8.of first256L else R8.zero
def firstQ (alg : Int) : R8 := if alg = 3 then R8.of first384L else if alg = 4 then R8.of first512L else R8.zero
structure St where
  words : R8
  wide : R8
def St.mix (alg : Int) (s : St) (bs : List Int) : St :=
  if alg = 1 then ⟨mx1 s.words bs, s.wide⟩ else if alg = 2 then ⟨mx256 s.words bs, s.wide⟩ else ⟨s.words, mx512 s.wide bs⟩
/-- The state behind k blocks of a message. -/
def run (alg : Int) (msg : List Int) : Nat → St
  | 0 => ⟨firstW alg, firstQ alg⟩
  | k + 1 => (run alg msg k).mix alg ((msg.drop (k * blk alg)).take (blk alg))
theorem run_app (alg : Int) (msg more : List Int) : ∀ k, k * blk alg ≤ msg.length → run alg (msg ++ more) k = run alg msg k
  | 0, _ => rfl
  | k + 1, h => by
    have h' : k * blk alg + blk alg ≤ msg.length := by rw [Nat.succ_mul] at h; exact h
    simp only [run]
    rw [run_app alg msg more k (by omega), List.drop_append_of_le_length (by omega), List.take_append_of_le_length (by simp; omega)]
/-- h holds the state of the message. -/
structure Inv (alg : Int) (h : Hs) (msg : List Int) : Prop where
  algE : h.alg = alg
  totalE : h.total = msg.length
  state : (⟨h.words, h.wide⟩ : St) = run alg msg (msg.length / blk alg)
  restE : h.rest.take (msg.length % blk alg) = msg.drop (msg.length / blk alg * blk alg)
theorem Alg.blk_pos {alg : Int} (h : Alg alg) : blk alg = 64 ∨ blk alg = 128 := by
  rcases h with rfl | rfl | rfl | rfl
  · exact .inl rfl
  · exact .inl rfl
  · exact .inr rfl
  · exact .inr rfl
theorem Hs.mixed_state {h : Hs} {alg : Int} (ha : h.alg = alg) (bs : List Int) : (⟨(h.mixed bs).words, (h.mixed bs).wide⟩ : St) = St.mix alg ⟨h.words, h.wide⟩ bs ∧ (h.mixed bs).alg = alg ∧ (h.mixed bs).total = h.total ∧ (h.mixed bs).rest = h.rest := by
  subst ha
  unfold Hs.mixed St.mix
  split
  · exact ⟨rfl, rfl, rfl, rfl⟩
  · split
    · exact ⟨rfl, rfl, rfl, rfl⟩
    · exact ⟨rfl, rfl, rfl, rfl⟩
/-- A number's last j bytes, the highest first. -/
def be : Nat → Nat → List Int
  | 0, _ => []
  | j + 1, m => ((m / 256 ^ j % 256 : Nat) : Int) :: be j m
theorem be_len (j m : Nat) : (be j m).length = j := by
  induction j with
  | zero => rfl
  | succ j ih => simp [be, ih]
theorem be_u8 (j m : Nat) : U8s (be j m) := by
  induction j with
  | zero => intro x hx; simp [be] at hx
  | succ j ih =>
    intro x hx
    rcases List.mem_cons.1 hx with rfl | hx
    · unfold U8; omega
    · exact ih x hx
theorem be_high (m : Nat) : ∀ (i j : Nat), m / 256 ^ j = 0 → be (i + j) m = List.replicate i 0 ++ be j m
  | 0, j, _ => by simp
  | i + 1, j, h => by
    rw [show i + 1 + j = (i + j) + 1 by omega, be, be_high m i j h, List.replicate_succ, List.cons_append]
    have : m / 256 ^ (i + j) = 0 := by
      rw [Nat.add_comm, Nat.pow_add, ← Nat.div_div_eq_div_mul, h, Nat.zero_div]
    rw [this]; rfl
/-- How many bytes fill a message of n bytes up, and which. -/
def fillLen (n B : Nat) : Nat := B - (n + B / 8) % B + B / 8
def fill (n B : Nat) : List Int := 128 :: (List.replicate (fillLen n B - 1 - B / 8) 0 ++ be (B / 8) (n * 8))
theorem fill_len {n B : Nat} (h : B = 64 ∨ B = 128) : (fill n B).length = fillLen n B := by
  have h1 : (n + B / 8) % B < B := Nat.mod_lt _ (by omega)
  simp only [fill, List.length_cons, List.length_append, List.length_replicate, be_len]
  unfold fillLen; omega
theorem fill_u8 (n B : Nat) : U8s (fill n B) := by
  intro x hx
  rcases List.mem_cons.1 hx with rfl | hx
  · exact ⟨by decide, by decide⟩
  · rcases List.mem_append.1 hx with hx | hx
    · rw [(List.mem_replicate.1 hx).2]; exact ⟨by decide, by decide⟩
    · exact be_u8 _ _ x hx
/-- The state's bytes. -/
def outB (alg : Int) (s : St) (i : Nat) : Int := if blk alg = 64 then s.words.list.getD (i / 4) 0 / 2 ^ (24 - i % 4 * 8) % 256 else s.wide.list.getD (i / 8) 0 / 2 ^ (56 - i % 8 * 8) % 256
def out (alg : Int) (s : St) : List Int := (List.range (siz alg)).map (outB alg s)
/-- The digest of a message. -/
def dig (alg : Int) (msg : List Int) : List Int :=
  out alg (run alg (msg ++ fill msg.length (blk alg)) ((msg.length + fillLen msg.length (blk alg)) / blk alg))
theorem out_len (alg : Int) (s : St) : (out alg s).length = siz alg := by simp [out]
theorem outB_u8 (alg : Int) (s : St) (i : Nat) : U8 (outB alg s i) := by
  unfold outB U8; split <;> exact ⟨Int.emod_nonneg _ (by decide), Int.emod_lt_of_pos _ (by decide)⟩
theorem out_u8 (alg : Int) (s : St) : U8s (out alg s) := by
  intro x hx; obtain ⟨i, _, rfl⟩ := List.mem_map.1 hx; exact outB_u8 _ _ _
theorem U8s.append {xs ys : List Int} (h : U8s xs) (k : U8s ys) : U8s (xs ++ ys) := by
  intro y hy; rcases List.mem_append.1 hy with hy | hy
  · exact h y hy
  · exact k y hy
theorem U8s.take {xs : List Int} (h : U8s xs) (n : Nat) : U8s (xs.take n) := fun y hy => h y (List.mem_of_mem_take hy)
theorem U8s.drop {xs : List Int} (h : U8s xs) (n : Nat) : U8s (xs.drop n) := fun y hy => h y (List.mem_of_mem_drop hy)
theorem U8s.set {xs : List Int} (h : U8s xs) (i : Nat) {x : Int} (hx : U8 x) : U8s (xs.set i x) := by
  intro y hy; rcases List.mem_or_eq_of_mem_set hy with hy | rfl
  · exact h y hy
  · exact hx
end Go.Proofs.YtndoibmpnhkmpaaGreatDoor.Sh
