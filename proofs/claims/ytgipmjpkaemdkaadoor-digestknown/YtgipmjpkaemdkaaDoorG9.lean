/-
  Digest: the walk of mix512.
-/
import Derived.Test.YtgipmjpkaemdkaaDoorG8
namespace Go.Proofs.YtgipmjpkaemdkaaDoor
open Go.RowKit
theorem turns64_I (x i j k : Int) (w : World) (hx : U64 x) (hi : 1 ≤ i ∧ i ≤ 63) (hj : 1 ≤ j ∧ j ≤ 63) (hk : 1 ≤ k ∧ k ≤ 63) :
    Calls Tryd.prog 56 #[.int .u64 x, .int .i64 i, .int .i64 j, .int .i64 k] w fun e w' => e = .returned (.int .u64 (trn64 x i.toNat j.toNat k.toNat)) ∧ w' = w := by
  obtain ⟨i, rfl⟩ := Int.eq_ofNat_of_zero_le (show 0 ≤ i by omega)
  obtain ⟨j, rfl⟩ := Int.eq_ofNat_of_zero_le (show 0 ≤ j by omega)
  obtain ⟨k, rfl⟩ := Int.eq_ofNat_of_zero_le (show 0 ≤ k by omega)
  simp only [Int.toNat_natCast]
  exact (turns64_any x hx i j k (by omega) (by omega) (by omega)).mono fun _ _ h => ⟨h.1, h.2.symm⟩
theorem Tryd.one512 : (Tryd.prog.info? 50).map (·.size) = some 1 := by kernel_rfl
theorem Tryd.eight512 : (Tryd.prog.info? 51).map (·.size) = some 8 := by kernel_rfl
theorem adds512_len : adds512L.length = 80 := by decide
theorem mixed512 (s0 s1 s2 s3 s4 s5 s6 s7 a b c d e f g h : Int) (i : Nat) (hi : i < 8) : ([IntKind.u64.wrap (s0 + a), IntKind.u64.wrap (s1 + b), IntKind.u64.wrap (s2 + c), IntKind.u64.wrap (s3 + d), IntKind.u64.wrap (s4 + e), IntKind.u64.wrap (s5 + f), IntKind.u64.wrap (s6 + g), IntKind.u64.wrap (s7 + h)] : List Int).getD i 0 = IntKind.u64.wrap (([s0, s1, s2, s3, s4, s5, s6, s7] : List Int).getD i 0 + ([a, b, c, d, e, f, g, h] : List Int).getD i 0) := by
  match i, hi with
  | 0, _ => rfl
  | 1, _ => rfl
  | 2, _ => rfl
  | 3, _ => rfl
  | 4, _ => rfl
  | 5, _ => rfl
  | 6, _ => rfl
  | 7, _ => rfl
set_option maxRecDepth 4000 in
set_option maxHeartbeats 2000000 in
theorem mix512_any {w : World} (s : R8) (hs : s.ok U64) (b off len c : Nat) (bs : List Int) (hb : b < w.heap.size) (hr : Rd .u8 w b off bs) (ub : U8s bs) (hlen : bs.length ≤ len) (hlc : len ≤ c) (hbs : bs.length = 128) (hT : Tabs w) :
    Calls Tryd.prog 49 #[.agg (s.list.map (Value.int .u64)).toArray, .slice (some ⟨b, off, none⟩) len c] w fun e w' => e = .returned (.agg ((mx512 s bs).list.map (Value.int .u64)).toArray) ∧ Below w.heap.size w w' := by
  obtain ⟨s0, s1, s2, s3, s4, s5, s6, s7⟩ := s
  have HM : Hid (∀ r, rnd512 (sch512 bs 80) ⟨s0, s1, s2, s3, s4, s5, s6, s7⟩ 80 = r → (mx512 ⟨s0, s1, s2, s3, s4, s5, s6, s7⟩ bs).list = [IntKind.u64.wrap (s0 + r.a), IntKind.u64.wrap (s1 + r.b), IntKind.u64.wrap (s2 + r.c), IntKind.u64.wrap (s3 + r.d), IntKind.u64.wrap (s4 + r.e), IntKind.u64.wrap (s5 + r.f), IntKind.u64.wrap (s6 + r.g), IntKind.u64.wrap (s7 + r.h)]) := fun r h => by subst h; rfl
  have HK : Hid (∀ t, (rnd512 (sch512 bs 80) ⟨s0, s1, s2, s3, s4, s5, s6, s7⟩ t).ok U64) := fun t => rnd512_ok hs t
  have HT : Hid (Tabs w) := hT
  have hz7 := hT.size
  clear hT hs
  show Calls Tryd.prog _ #[.agg #[.int .u64 s0, .int .u64 s1, .int .u64 s2, .int .u64 s3, .int .u64 s4, .int .u64 s5, .int .u64 s6, .int .u64 s7], _] w _
  go_enter Tryd.func49, Tryd.ntmps49
  go_upto_region 1 with (fail)
  go_quiet (fail)
  go_upto_region 2 with (fail)
  go_quiet (fail)
  have hW0 : ∀ (o1 o2 : Obj) (n : Nat), Below w.heap.size w (((w.alloc o1).alloc o2).drewN n) := fun o1 o2 n => below_drewN _ (((Below.refl _ _).alloc (Nat.le_refl _) _).alloc (by simp) _)
  go_wp2_with (go_at_call 55; refine (words512_any b off len c bs (by simp; omega) (by exact below_rd (hW0 _ _ _) hb hr) ub hlen hlc hbs).mono ?_; rintro e w1 ⟨rfl, hb1⟩)
  have hB0 : Below w.heap.size w w1 := (hW0 _ _ _).trans (hb1.mono (by simp; omega))
  have hS1 : Blk 51 w1 w.heap.size [.int .u64 s0, .int .u64 s1, .int .u64 s2, .int .u64 s3, .int .u64 s4, .int .u64 s5, .int .u64 s6, .int .u64 s7] := below_blk hb1 (by simp; omega) ((Blk.new _ w _).alloc _)
  have hZ1 : Blk 51 w1 (w.heap.size + 1) [.int .u64 0, .int .u64 0, .int .u64 0, .int .u64 0, .int .u64 0, .int .u64 0, .int .u64 0, .int .u64 0] := below_blk hb1 (by simp) (by have := Blk.new 51 (w.alloc (.cells #[.int .u64 s0, .int .u64 s1, .int .u64 s2, .int .u64 s3, .int .u64 s4, .int .u64 s5, .int .u64 s6, .int .u64 s7] 51)) [.int .u64 0, .int .u64 0, .int .u64 0, .int .u64 0, .int .u64 0, .int .u64 0, .int .u64 0, .int .u64 0]; exact (by simpa using this : Blk 51 _ (w.heap.size + 1) _).drewN _)
  have HH : Hid (Below w.heap.size w w1 ∧ Blk 51 w1 w.heap.size [.int .u64 s0, .int .u64 s1, .int .u64 s2, .int .u64 s3, .int .u64 s4, .int .u64 s5, .int .u64 s6, .int .u64 s7] ∧ Blk 51 w1 (w.heap.size + 1) [.int .u64 0, .int .u64 0, .int .u64 0, .int .u64 0, .int .u64 0, .int .u64 0, .int .u64 0, .int .u64 0] ∧ Tabs w1) := ⟨hB0, hS1, hZ1, HT.out.below hB0⟩
  clear hb1 hB0 hS1 hZ1 hW0
  have hWl := sch512_len bs 80
  obtain ⟨W, hW⟩ : ∃ W, sch512 bs 80 = W := ⟨_, rfl⟩
  rw [hW] at HM HK hWl
  simp only [hW]
  clear hW
  go_loopw [5, 6, 7, 8, 9, 10, 11, 12, 37] (fun va vb vc vd ve vf vg vh iv wr => ∃ (t q : Nat), iv = .int .i64 t ∧ t ≤ 80 ∧ va = .int .u64 (rnd512 W ⟨s0, s1, s2, s3, s4, s5, s6, s7⟩ t).a ∧ vb = .int .u64 (rnd512 W ⟨s0, s1, s2, s3, s4, s5, s6, s7⟩ t).b ∧ vc = .int .u64 (rnd512 W ⟨s0, s1, s2, s3, s4, s5, s6, s7⟩ t).c ∧ vd = .int .u64 (rnd512 W ⟨s0, s1, s2, s3, s4, s5, s6, s7⟩ t).d ∧ ve = .int .u64 (rnd512 W ⟨s0, s1, s2, s3, s4, s5, s6, s7⟩ t).e ∧ vf = .int .u64 (rnd512 W ⟨s0, s1, s2, s3, s4, s5, s6, s7⟩ t).f ∧ vg = .int .u64 (rnd512 W ⟨s0, s1, s2, s3, s4, s5, s6, s7⟩ t).g ∧ vh = .int .u64 (rnd512 W ⟨s0, s1, s2, s3, s4, s5, s6, s7⟩ t).h ∧ wr = w1.drewN q) (fun _ _ _ _ _ _ _ _ iv _ => 80 - (intOf iv).toNat)
  case atStart => exact ⟨0, 0, rfl, by omega, rfl, rfl, rfl, rfl, rfl, rfl, rfl, rfl, rfl⟩
  case round =>
    obtain ⟨t, q, rfl, ht, rfl, rfl, rfl, rfl, rfl, rfl, rfl, rfl, hwr⟩ := hrel
    have HW : Hid (wr = w1.drewN q) := hwr
    clear hwr
    obtain ⟨r, hrr⟩ : ∃ r, rnd512 W ⟨s0, s1, s2, s3, s4, s5, s6, s7⟩ t = r := ⟨_, rfl⟩
    have hok := HK.out t
    have HR : Hid (rnd512 W ⟨s0, s1, s2, s3, s4, s5, s6, s7⟩ t = r) := hrr
    rw [hrr] at hok
    simp only [hrr]
    clear hrr
    obtain ⟨a, b, c, d, e, f, g, h⟩ := r
    have HU : Hid (U64 a ∧ U64 e) := ⟨hok.1, hok.2.2.2.2.1⟩
    clear hok
    by_cases hlt : t < 80
    · have hk : wr.cell? ⟨6, t, none⟩ = some (.int .u64 (adds512L.getD t 0)) := by
        rw [HW.out]
        have := HH.out.2.2.2.a512 t (by rw [adds512_len]; exact hlt)
        simpa using this
      have hx : ∀ w' : World, Sem.run Tryd.prog (Instr.index 68 (.agg (W.map (Value.int .u64)).toArray) (.int .i64 t)) w' = .ok (.int .u64 (W.getD t 0)) w' := fun w' => run_index_row w' _ _ 80 .u64 W t Tryd.underlying68 Tryd.underlying50 Tryd.one512 hWl hlt
      obtain ⟨k, hk0⟩ : ∃ k, adds512L.getD t 0 = k := ⟨_, rfl⟩
      obtain ⟨x, hx0⟩ : ∃ x, W.getD t 0 = x := ⟨_, rfl⟩
      rw [hk0] at hk
      rw [hx0] at hx
      have HV : Hid (rnd512 W ⟨s0, s1, s2, s3, s4, s5, s6, s7⟩ (t + 1) = ⟨IntKind.u64.wrap (IntKind.u64.wrap (IntKind.u64.wrap (IntKind.u64.wrap (IntKind.u64.wrap (h + trn64 e 14 18 41) + bits .xor .u64 (bits .and .u64 e f) (bits .and .u64 (bits .xor .u64 IntKind.u64.max e) g)) + k) + x) + IntKind.u64.wrap (trn64 a 28 34 39 + bits .xor .u64 (bits .xor .u64 (bits .and .u64 a b) (bits .and .u64 a c)) (bits .and .u64 b c))), a, b, c, IntKind.u64.wrap (d + IntKind.u64.wrap (IntKind.u64.wrap (IntKind.u64.wrap (IntKind.u64.wrap (h + trn64 e 14 18 41) + bits .xor .u64 (bits .and .u64 e f) (bits .and .u64 (bits .xor .u64 IntKind.u64.max e) g)) + k) + x)), e, f, g⟩) := by
        show stp512 W t _ = _
        rw [HR.out]; unfold stp512; simp only []; rw [hk0, hx0]
      clear hk0 hx0
      have ht0 : (t : Int) < 80 := by omega
      go_upto_region 6 with (fail)
      go_quiet ((go_at_call 56; exact Calls.quiet_of_same (turns64_I _ _ _ _ _ HU.out.2 (by omega) (by omega) (by omega))))
      go_wp2_with (go_at_call 56; refine (turns64_I _ _ _ _ _ HU.out.1 (by omega) (by omega) (by omega)).mono ?_; rintro e' w' ⟨rfl, rfl⟩)
      go_roundw
      case rel =>
        refine ⟨t + 1, q + nq, by go_num, by omega, ?_⟩
        rw [HV.out]
        simp only [show (if IntKind.u64.signed = true then (-1 : Int) else IntKind.u64.max) = IntKind.u64.max from rfl, true_and]
        rw [HW.out, World.drewN_drewN]
      case measure => simp [intOf]; omega
    · obtain rfl : t = 80 := by omega
      have hM := HM.out _ HR.out
      obtain ⟨L, hL⟩ : ∃ L, (mx512 ⟨s0, s1, s2, s3, s4, s5, s6, s7⟩ bs).list = L := ⟨_, rfl⟩
      rw [hL] at hM
      have HL : Hid ((mx512 ⟨s0, s1, s2, s3, s4, s5, s6, s7⟩ bs).list = L) := hL
      have hLl : L.length = 8 := by rw [hM]; rfl
      have HX : Hid (∀ i, i < 8 → L.getD i 0 = IntKind.u64.wrap (([s0, s1, s2, s3, s4, s5, s6, s7] : List Int).getD i 0 + ([a, b, c, d, e, f, g, h] : List Int).getD i 0)) := fun i hi => by rw [hM]; exact mixed512 _ _ _ _ _ _ _ _ _ _ _ _ _ _ _ _ i hi
      have HI : Hid (Below w.heap.size w wr ∧ Arr .u64 51 wr w.heap.size (L.take 0 ++ ([s0, s1, s2, s3, s4, s5, s6, s7] : List Int).drop 0) ∧ Blk 51 wr (w.heap.size + 1) [.int .u64 0, .int .u64 0, .int .u64 0, .int .u64 0, .int .u64 0, .int .u64 0, .int .u64 0, .int .u64 0]) := by
        rw [HW.out]; exact ⟨below_drewN q HH.out.1, HH.out.2.1, HH.out.2.2.1⟩
      clear hM hL
      go_wp2_with fail
      go_loopw [96] (fun iv wr => ∃ i : Nat, iv = .int .i64 i ∧ i ≤ 8 ∧ Arr .u64 51 wr w.heap.size (L.take i ++ ([s0, s1, s2, s3, s4, s5, s6, s7] : List Int).drop i) ∧ Blk 51 wr (w.heap.size + 1) [.int .u64 0, .int .u64 0, .int .u64 0, .int .u64 0, .int .u64 0, .int .u64 0, .int .u64 0, .int .u64 0] ∧ Below w.heap.size w wr) (fun iv _ => 8 - (intOf iv).toNat)
      case atStart => exact ⟨0, rfl, by omega, HI.out.2.1, HI.out.2.2, HI.out.1⟩
      case round =>
        obtain ⟨i, rfl, hi, hA, hZ, hBw⟩ := hrel
        by_cases hi8 : i < 8
        · have hlen8 : (L.take i ++ ([s0, s1, s2, s3, s4, s5, s6, s7] : List Int).drop i).length = 8 := by simp [hLl]; omega
          have hset := mixset L [s0, s1, s2, s3, s4, s5, s6, s7] i hLl rfl hi8
          have hc0 := hA.cell i (by omega)
          have e0 := mixget L [s0, s1, s2, s3, s4, s5, s6, s7] i hLl rfl hi8
          rw [e0] at hc0
          have hf0 := hA.frozen i
          have hx2 : ∀ w' : World, Sem.run Tryd.prog (Instr.index 51 (.agg #[.int .u64 a, .int .u64 b, .int .u64 c, .int .u64 d, .int .u64 e, .int .u64 f, .int .u64 g, .int .u64 h]) (.int .i64 i)) w' = .ok (.int .u64 (([a, b, c, d, e, f, g, h] : List Int).getD i 0)) w' := fun w' => run_index_row w' _ _ 8 .u64 [a, b, c, d, e, f, g, h] i Tryd.underlying51 Tryd.underlying50 Tryd.one512 rfl hi8
          have hX := HX.out i hi8
          obtain ⟨o, ho⟩ : ∃ o, ([s0, s1, s2, s3, s4, s5, s6, s7] : List Int).getD i 0 = o := ⟨_, rfl⟩
          obtain ⟨x, hx0⟩ : ∃ x, ([a, b, c, d, e, f, g, h] : List Int).getD i 0 = x := ⟨_, rfl⟩
          rw [ho] at hc0 hX
          rw [hx0] at hx2 hX
          have HV : Hid (L.getD i 0 = IntKind.u64.wrap (o + x)) := hX
          have HN : Hid (Arr .u64 51 wr w.heap.size (L.take i ++ ([s0, s1, s2, s3, s4, s5, s6, s7] : List Int).drop i) ∧ Blk 51 wr (w.heap.size + 1) [.int .u64 0, .int .u64 0, .int .u64 0, .int .u64 0, .int .u64 0, .int .u64 0, .int .u64 0, .int .u64 0] ∧ Below w.heap.size w wr ∧ (L.take i ++ ([s0, s1, s2, s3, s4, s5, s6, s7] : List Int).drop i).set i (L.getD i 0) = L.take (i + 1) ++ ([s0, s1, s2, s3, s4, s5, s6, s7] : List Int).drop (i + 1)) := ⟨hA, hZ, hBw, hset⟩
          clear hX hA hZ hBw hset hlen8 e0 ho hx0
          have hi0 : (i : Int) < 8 := by omega
          go_wp2
          go_roundw
          case rel =>
            obtain ⟨hA, hZ, hBw, hset⟩ := HN.out
            refine ⟨i + 1, by go_num, by omega, ?_, (Upd.set _ _ _ _).blk hZ (by omega), (Upd.set wr w.heap.size i _).below hBw hBw.size (Nat.le_refl _)⟩
            have := hA.set i (L.getD i 0)
            rw [hset, HV.out] at this; exact this
          case measure => simp [intOf]; omega
        · obtain rfl : i = 8 := by omega
          obtain ⟨cs, hcs⟩ : ∃ cs, L.map (Value.int .u64) = cs := ⟨_, rfl⟩
          have hA2 : Blk 51 wr w.heap.size cs := by
            have := hA.blk
            rw [List.take_of_length_le (by omega), List.drop_of_length_le (by simp), List.append_nil, hcs] at this; exact this
          have hlc : cs.length = 8 := by rw [← hcs]; simp [hLl]
          have HO : Hid (cs.toArray.all (·.oneCell') = true) := by rw [← hcs]; exact ints_one _ _
          have HC : Hid ((mx512 ⟨s0, s1, s2, s3, s4, s5, s6, s7⟩ bs).list.map (Value.int .u64) = cs) := by rw [HL.out]; exact hcs
          have HF : Hid (Blk 51 (wr.setCells (w.heap.size + 1) 0 cs) (w.heap.size + 1) cs ∧ Below w.heap.size w (wr.setCells (w.heap.size + 1) 0 cs)) := ⟨hZ.fill cs (by rw [hlc]; rfl), (Upd.setCells cs 0 wr).below hBw hBw.size (by omega)⟩
          have HS2 : Hid (wr.rangeAt w.heap.size 0 cs ∧ wr.there (w.heap.size + 1) 0 cs.toArray.size) := ⟨hA2.whole, hZ.there 0 _ (by simp [hlc])⟩
          have HSz : Hid ((Tryd.prog.info? 51).map (·.size) = some cs.length) := by rw [hlc]; exact Tryd.eight512
          clear hA2 hZ hBw hlc hcs hA
          go_wp2_with (first
            | (refine wpList_load_mid rfl _ _ rfl w.heap.size 0 rfl cs _ HS2.out.1 Tryd.underlying51 rfl HSz.out ?_)
            | (refine wpList_store_mid rfl _ _ _ rfl (w.heap.size + 1) 0 cs.toArray rfl rfl HS2.out.2 (by simpa using HSz.out) HO.out ?_))
          refine bodyPost_ret (v := .agg cs.toArray) (results_blk (b := w.heap.size + 1) (cs := cs) rfl rfl HF.out.1 Tryd.underlying51 rfl HSz.out) rfl ⟨by rw [HC.out], HF.out.2⟩
end Go.Proofs.YtgipmjpkaemdkaaDoor
