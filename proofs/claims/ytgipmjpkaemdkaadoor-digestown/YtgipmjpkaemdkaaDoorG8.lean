/-
  Digest: the walk of mix256.
-/
import Derived.Test.YtgipmjpkaemdkaaDoorG7
namespace Go.Proofs.YtgipmjpkaemdkaaDoor
open Go.RowKit
theorem mixset (L S : List Int) (i : Nat) (hL : L.length = 8) (hS : S.length = 8) (hi : i < 8) : (L.take i ++ S.drop i).set i (L.getD i 0) = L.take (i + 1) ++ S.drop (i + 1) := by
  have h1 : (L.take i).length = i := by simp; omega
  rw [List.set_append_right _ _ (by omega), h1, Nat.sub_self, List.drop_eq_getElem_cons (by omega), List.set_cons_zero, List.take_succ_eq_append_getElem (by omega), List.append_assoc]
  simp [show i < L.length by omega]
theorem mixget (L S : List Int) (i : Nat) (hL : L.length = 8) (hS : S.length = 8) (hi : i < 8) : (L.take i ++ S.drop i).getD i 0 = S.getD i 0 := by
  have h1 : (L.take i).length = i := by simp; omega
  rw [List.getD_eq_getElem?_getD, List.getElem?_append_right (by omega), h1, Nat.sub_self, List.getElem?_drop]
  simp [show i < S.length by omega]
theorem turns32_I (x i j k : Int) (w : World) (hx : U32 x) (hi : 1 ≤ i ∧ i ≤ 31) (hj : 1 ≤ j ∧ j ≤ 31) (hk : 1 ≤ k ∧ k ≤ 31) :
    Calls Tryd.prog 54 #[.int .u32 x, .int .i64 i, .int .i64 j, .int .i64 k] w fun e w' => e = .returned (.int .u32 (trn32 x i.toNat j.toNat k.toNat)) ∧ w' = w := by
  obtain ⟨i, rfl⟩ := Int.eq_ofNat_of_zero_le (show 0 ≤ i by omega)
  obtain ⟨j, rfl⟩ := Int.eq_ofNat_of_zero_le (show 0 ≤ j by omega)
  obtain ⟨k, rfl⟩ := Int.eq_ofNat_of_zero_le (show 0 ≤ k by omega)
  simp only [Int.toNat_natCast]
  exact (turns32_any x hx i j k (by omega) (by omega) (by omega)).mono fun _ _ h => ⟨h.1, h.2.symm⟩
theorem Tryd.one256 : (Tryd.prog.info? 48).map (·.size) = some 1 := by kernel_rfl
theorem Tryd.eight256 : (Tryd.prog.info? 49).map (·.size) = some 8 := by kernel_rfl
theorem adds256_len : adds256L.length = 64 := by decide
theorem mixed256 (s0 s1 s2 s3 s4 s5 s6 s7 a b c d e f g h : Int) (i : Nat) (hi : i < 8) : ([(s0 + a) % 4294967296, (s1 + b) % 4294967296, (s2 + c) % 4294967296, (s3 + d) % 4294967296, (s4 + e) % 4294967296, (s5 + f) % 4294967296, (s6 + g) % 4294967296, (s7 + h) % 4294967296] : List Int).getD i 0 = (([s0, s1, s2, s3, s4, s5, s6, s7] : List Int).getD i 0 + ([a, b, c, d, e, f, g, h] : List Int).getD i 0) % 4294967296 := by
  match i, hi with
  | 0, _ => rfl
  | 1, _ => rfl
  | 2, _ => rfl
  | 3, _ => rfl
  | 4, _ => rfl
  | 5, _ => rfl
  | 6, _ => rfl
  | 7, _ => rfl
set_option maxRecDepth 4000 in
set_option maxHeartbeats 2000000 in
theorem mix256_any {w : World} (s : R8) (hs : s.ok U32) (b off len c : Nat) (bs : List Int) (hb : b < w.heap.size) (hr : Rd .u8 w b off bs) (ub : U8s bs) (hlen : bs.length ≤ len) (hlc : len ≤ c) (hbs : bs.length = 64) (hT : Tabs w) :
    Calls Tryd.prog 48 #[.agg (s.list.map (Value.int .u32)).toArray, .slice (some ⟨b, off, none⟩) len c] w fun e w' => e = .returned (.agg ((mx256 s bs).list.map (Value.int .u32)).toArray) ∧ Below w.heap.size w w' := by
  obtain ⟨s0, s1, s2, s3, s4, s5, s6, s7⟩ := s
  have HM : Hid (∀ r, rnd256 (sch256 bs 64) ⟨s0, s1, s2, s3, s4, s5, s6, s7⟩ 64 = r → (mx256 ⟨s0, s1, s2, s3, s4, s5, s6, s7⟩ bs).list = [(s0 + r.a) % 4294967296, (s1 + r.b) % 4294967296, (s2 + r.c) % 4294967296, (s3 + r.d) % 4294967296, (s4 + r.e) % 4294967296, (s5 + r.f) % 4294967296, (s6 + r.g) % 4294967296, (s7 + r.h) % 4294967296]) := fun r h => by subst h; rfl
  have HK : Hid (∀ t, (rnd256 (sch256 bs 64) ⟨s0, s1, s2, s3, s4, s5, s6, s7⟩ t).ok U32) := fun t => rnd256_ok hs t
  have HT : Hid (Tabs w) := hT
  have hz7 := hT.size
  clear hT hs
  show Calls Tryd.prog _ #[.agg #[.int .u32 s0, .int .u32 s1, .int .u32 s2, .int .u32 s3, .int .u32 s4, .int .u32 s5, .int .u32 s6, .int .u32 s7], _] w _
  go_enter Tryd.func48, Tryd.ntmps48
  go_upto_region 1 with (fail)
  go_quiet (fail)
  go_upto_region 2 with (fail)
  go_quiet (fail)
  have hW0 : ∀ (o1 o2 : Obj) (n : Nat), Below w.heap.size w (((w.alloc o1).alloc o2).drewN n) := fun o1 o2 n => below_drewN _ (((Below.refl _ _).alloc (Nat.le_refl _) _).alloc (by simp) _)
  go_wp2_with (go_at_call 53; refine (words256_any b off len c bs (by simp; omega) (by exact below_rd (hW0 _ _ _) hb hr) ub hlen hlc hbs).mono ?_; rintro e w1 ⟨rfl, hb1⟩)
  have hB0 : Below w.heap.size w w1 := (hW0 _ _ _).trans (hb1.mono (by simp; omega))
  have hS1 : Blk 49 w1 w.heap.size [.int .u32 s0, .int .u32 s1, .int .u32 s2, .int .u32 s3, .int .u32 s4, .int .u32 s5, .int .u32 s6, .int .u32 s7] := below_blk hb1 (by simp; omega) ((Blk.new _ w _).alloc _)
  have hZ1 : Blk 49 w1 (w.heap.size + 1) [.int .u32 0, .int .u32 0, .int .u32 0, .int .u32 0, .int .u32 0, .int .u32 0, .int .u32 0, .int .u32 0] := below_blk hb1 (by simp) (by have := Blk.new 49 (w.alloc (.cells #[.int .u32 s0, .int .u32 s1, .int .u32 s2, .int .u32 s3, .int .u32 s4, .int .u32 s5, .int .u32 s6, .int .u32 s7] 49)) [.int .u32 0, .int .u32 0, .int .u32 0, .int .u32 0, .int .u32 0, .int .u32 0, .int .u32 0, .int .u32 0]; exact (by simpa using this : Blk 49 _ (w.heap.size + 1) _).drewN _)
  have HH : Hid (Below w.heap.size w w1 ∧ Blk 49 w1 w.heap.size [.int .u32 s0, .int .u32 s1, .int .u32 s2, .int .u32 s3, .int .u32 s4, .int .u32 s5, .int .u32 s6, .int .u32 s7] ∧ Blk 49 w1 (w.heap.size + 1) [.int .u32 0, .int .u32 0, .int .u32 0, .int .u32 0, .int .u32 0, .int .u32 0, .int .u32 0, .int .u32 0] ∧ Tabs w1) := ⟨hB0, hS1, hZ1, HT.out.below hB0⟩
  clear hb1 hB0 hS1 hZ1 hW0
  have hWl := sch256_len bs 64
  obtain ⟨W, hW⟩ : ∃ W, sch256 bs 64 = W := ⟨_, rfl⟩
  rw [hW] at HM HK hWl
  simp only [hW]
  clear hW
  go_loopw [5, 6, 7, 8, 9, 10, 11, 12, 37] (fun va vb vc vd ve vf vg vh iv wr => ∃ (t q : Nat), iv = .int .i64 t ∧ t ≤ 64 ∧ va = .int .u32 (rnd256 W ⟨s0, s1, s2, s3, s4, s5, s6, s7⟩ t).a ∧ vb = .int .u32 (rnd256 W ⟨s0, s1, s2, s3, s4, s5, s6, s7⟩ t).b ∧ vc = .int .u32 (rnd256 W ⟨s0, s1, s2, s3, s4, s5, s6, s7⟩ t).c ∧ vd = .int .u32 (rnd256 W ⟨s0, s1, s2, s3, s4, s5, s6, s7⟩ t).d ∧ ve = .int .u32 (rnd256 W ⟨s0, s1, s2, s3, s4, s5, s6, s7⟩ t).e ∧ vf = .int .u32 (rnd256 W ⟨s0, s1, s2, s3, s4, s5, s6, s7⟩ t).f ∧ vg = .int .u32 (rnd256 W ⟨s0, s1, s2, s3, s4, s5, s6, s7⟩ t).g ∧ vh = .int .u32 (rnd256 W ⟨s0, s1, s2, s3, s4, s5, s6, s7⟩ t).h ∧ wr = w1.drewN q) (fun _ _ _ _ _ _ _ _ iv _ => 64 - (intOf iv).toNat)
  case atStart => exact ⟨0, 0, rfl, by omega, rfl, rfl, rfl, rfl, rfl, rfl, rfl, rfl, rfl⟩
  case round =>
    obtain ⟨t, q, rfl, ht, rfl, rfl, rfl, rfl, rfl, rfl, rfl, rfl, hwr⟩ := hrel
    have HW : Hid (wr = w1.drewN q) := hwr
    clear hwr
    obtain ⟨r, hrr⟩ : ∃ r, rnd256 W ⟨s0, s1, s2, s3, s4, s5, s6, s7⟩ t = r := ⟨_, rfl⟩
    have hok := HK.out t
    have HR : Hid (rnd256 W ⟨s0, s1, s2, s3, s4, s5, s6, s7⟩ t = r) := hrr
    rw [hrr] at hok
    simp only [hrr]
    clear hrr
    obtain ⟨a, b, c, d, e, f, g, h⟩ := r
    have HU : Hid (U32 a ∧ U32 e) := ⟨hok.1, hok.2.2.2.2.1⟩
    clear hok
    by_cases hlt : t < 64
    · have hk : wr.cell? ⟨5, t, none⟩ = some (.int .u32 (adds256L.getD t 0)) := by
        rw [HW.out]
        have := HH.out.2.2.2.a256 t (by rw [adds256_len]; exact hlt)
        simpa using this
      have hx : ∀ w' : World, Sem.run Tryd.prog (Instr.index 66 (.agg (W.map (Value.int .u32)).toArray) (.int .i64 t)) w' = .ok (.int .u32 (W.getD t 0)) w' := fun w' => run_index_row w' _ _ 64 .u32 W t Tryd.underlying66 Tryd.underlying48 Tryd.one256 hWl hlt
      obtain ⟨k, hk0⟩ : ∃ k, adds256L.getD t 0 = k := ⟨_, rfl⟩
      obtain ⟨x, hx0⟩ : ∃ x, W.getD t 0 = x := ⟨_, rfl⟩
      rw [hk0] at hk
      rw [hx0] at hx
      have HV : Hid (rnd256 W ⟨s0, s1, s2, s3, s4, s5, s6, s7⟩ (t + 1) = ⟨((h + trn32 e 6 11 25 + bits .xor .u32 (bits .and .u32 e f) (bits .and .u32 (bits .xor .u32 IntKind.u32.max e) g) + k + x) % 4294967296 + (trn32 a 2 13 22 + bits .xor .u32 (bits .xor .u32 (bits .and .u32 a b) (bits .and .u32 a c)) (bits .and .u32 b c)) % 4294967296) % 4294967296, a, b, c, (d + (h + trn32 e 6 11 25 + bits .xor .u32 (bits .and .u32 e f) (bits .and .u32 (bits .xor .u32 IntKind.u32.max e) g) + k + x) % 4294967296) % 4294967296, e, f, g⟩) := by
        show stp256 W t _ = _
        rw [HR.out]; unfold stp256; simp only []; rw [hk0, hx0]
      clear hk0 hx0
      have ht0 : (t : Int) < 64 := by omega
      go_upto_region 6 with (fail)
      go_quiet ((go_at_call 54; exact Calls.quiet_of_same (turns32_I _ _ _ _ _ HU.out.2 (by omega) (by omega) (by omega))))
      go_wp2_with (go_at_call 54; refine (turns32_I _ _ _ _ _ HU.out.1 (by omega) (by omega) (by omega)).mono ?_; rintro e' w' ⟨rfl, rfl⟩)
      go_roundw
      case rel =>
        refine ⟨t + 1, q + nq, by go_num, by omega, ?_⟩
        rw [HV.out]
        simp only [show (if IntKind.u32.signed = true then (-1 : Int) else IntKind.u32.max) = IntKind.u32.max from rfl, true_and]
        rw [HW.out, World.drewN_drewN]
      case measure => simp [intOf]; omega
    · obtain rfl : t = 64 := by omega
      have hM := HM.out _ HR.out
      obtain ⟨L, hL⟩ : ∃ L, (mx256 ⟨s0, s1, s2, s3, s4, s5, s6, s7⟩ bs).list = L := ⟨_, rfl⟩
      rw [hL] at hM
      have HL : Hid ((mx256 ⟨s0, s1, s2, s3, s4, s5, s6, s7⟩ bs).list = L) := hL
      have hLl : L.length = 8 := by rw [hM]; rfl
      have HX : Hid (∀ i, i < 8 → L.getD i 0 = (([s0, s1, s2, s3, s4, s5, s6, s7] : List Int).getD i 0 + ([a, b, c, d, e, f, g, h] : List Int).getD i 0) % 4294967296) := fun i hi => by rw [hM]; exact mixed256 _ _ _ _ _ _ _ _ _ _ _ _ _ _ _ _ i hi
      have HI : Hid (Below w.heap.size w wr ∧ Arr .u32 49 wr w.heap.size (L.take 0 ++ ([s0, s1, s2, s3, s4, s5, s6, s7] : List Int).drop 0) ∧ Blk 49 wr (w.heap.size + 1) [.int .u32 0, .int .u32 0, .int .u32 0, .int .u32 0, .int .u32 0, .int .u32 0, .int .u32 0, .int .u32 0]) := by
        rw [HW.out]; exact ⟨below_drewN q HH.out.1, HH.out.2.1, HH.out.2.2.1⟩
      clear hM hL
      go_wp2_with fail
      go_loopw [96] (fun iv wr => ∃ i : Nat, iv = .int .i64 i ∧ i ≤ 8 ∧ Arr .u32 49 wr w.heap.size (L.take i ++ ([s0, s1, s2, s3, s4, s5, s6, s7] : List Int).drop i) ∧ Blk 49 wr (w.heap.size + 1) [.int .u32 0, .int .u32 0, .int .u32 0, .int .u32 0, .int .u32 0, .int .u32 0, .int .u32 0, .int .u32 0] ∧ Below w.heap.size w wr) (fun iv _ => 8 - (intOf iv).toNat)
      case atStart => exact ⟨0, rfl, by omega, HI.out.2.1, HI.out.2.2, HI.out.1⟩
      case round =>
        obtain ⟨i, rfl, hi, hA, hZ, hBw⟩ := hrel
        by_cases hi8 : i < 8
        · have hlen8 : (L.take i ++ ([s0, s1, s2, s3, s4, s5, s6, s7] : List Int).drop i).length = 8 := by simp [hLl]; omega
          have hset := mixset L [s0, s1, s2, s3, s4, s5, s6, s7] i hLl rfl hi8
          have hc0 := hA.cell i (by omega)
          have e0 := mixget L [s0, s1, s2, s3, s4, s5, s6, s7] i hLl rfl hi8
          rw [e0] at hc0
          have hf0 := hA.frozen i
          have hx2 : ∀ w' : World, Sem.run Tryd.prog (Instr.index 49 (.agg #[.int .u32 a, .int .u32 b, .int .u32 c, .int .u32 d, .int .u32 e, .int .u32 f, .int .u32 g, .int .u32 h]) (.int .i64 i)) w' = .ok (.int .u32 (([a, b, c, d, e, f, g, h] : List Int).getD i 0)) w' := fun w' => run_index_row w' _ _ 8 .u32 [a, b, c, d, e, f, g, h] i Tryd.underlying49 Tryd.underlying48 Tryd.one256 rfl hi8
          have hX := HX.out i hi8
          obtain ⟨o, ho⟩ : ∃ o, ([s0, s1, s2, s3, s4, s5, s6, s7] : List Int).getD i 0 = o := ⟨_, rfl⟩
          obtain ⟨x, hx0⟩ : ∃ x, ([a, b, c, d, e, f, g, h] : List Int).getD i 0 = x := ⟨_, rfl⟩
          rw [ho] at hc0 hX
          rw [hx0] at hx2 hX
          have HV : Hid (L.getD i 0 = (o + x) % 4294967296) := hX
          have HN : Hid (Arr .u32 49 wr w.heap.size (L.take i ++ ([s0, s1, s2, s3, s4, s5, s6, s7] : List Int).drop i) ∧ Blk 49 wr (w.heap.size + 1) [.int .u32 0, .int .u32 0, .int .u32 0, .int .u32 0, .int .u32 0, .int .u32 0, .int .u32 0, .int .u32 0] ∧ Below w.heap.size w wr ∧ (L.take i ++ ([s0, s1, s2, s3, s4, s5, s6, s7] : List Int).drop i).set i (L.getD i 0) = L.take (i + 1) ++ ([s0, s1, s2, s3, s4, s5, s6, s7] : List Int).drop (i + 1)) := ⟨hA, hZ, hBw, hset⟩
          clear hX hA hZ hBw hset hlen8 e0 ho hx0
          have hi0 : (i : Int) < 8 := by omega
          go_wp2
          go_roundw
          case rel =>
            obtain ⟨hA, hZ, hBw, hset⟩ := HN.out
            refine ⟨i + 1, by go_num, by omega, ?_, (Upd.set _ _ _ _).blk hZ (by omega), (Upd.set wr w.heap.size i _).below hBw hBw.size (Nat.le_refl _)⟩
            have := hA.set i (L.getD i 0)
            rw [hset, HV.out] at this; exact this
          case measure => simp [intOf]; omega
        · obtain rfl : i = 8 := by omega
          obtain ⟨cs, hcs⟩ : ∃ cs, L.map (Value.int .u32) = cs := ⟨_, rfl⟩
          have hA2 : Blk 49 wr w.heap.size cs := by
            have := hA.blk
            rw [List.take_of_length_le (by omega), List.drop_of_length_le (by simp), List.append_nil, hcs] at this; exact this
          have hlc : cs.length = 8 := by rw [← hcs]; simp [hLl]
          have HO : Hid (cs.toArray.all (·.oneCell') = true) := by rw [← hcs]; exact ints_one _ _
          have HC : Hid ((mx256 ⟨s0, s1, s2, s3, s4, s5, s6, s7⟩ bs).list.map (Value.int .u32) = cs) := by rw [HL.out]; exact hcs
          have HF : Hid (Blk 49 (wr.setCells (w.heap.size + 1) 0 cs) (w.heap.size + 1) cs ∧ Below w.heap.size w (wr.setCells (w.heap.size + 1) 0 cs)) := ⟨hZ.fill cs (by rw [hlc]; rfl), (Upd.setCells cs 0 wr).below hBw hBw.size (by omega)⟩
          have HS2 : Hid (wr.rangeAt w.heap.size 0 cs ∧ wr.there (w.heap.size + 1) 0 cs.toArray.size) := ⟨hA2.whole, hZ.there 0 _ (by simp [hlc])⟩
          have HSz : Hid ((Tryd.prog.info? 49).map (·.size) = some cs.length) := by rw [hlc]; exact Tryd.eight256
          clear hA2 hZ hBw hlc hcs hA
          go_wp2_with (first
            | (refine wpList_load_mid rfl _ _ rfl w.heap.size 0 rfl cs _ HS2.out.1 Tryd.underlying49 rfl HSz.out ?_)
            | (refine wpList_store_mid rfl _ _ _ rfl (w.heap.size + 1) 0 cs.toArray rfl rfl HS2.out.2 (by simpa using HSz.out) HO.out ?_))
          refine bodyPost_ret (v := .agg cs.toArray) (results_blk (b := w.heap.size + 1) (cs := cs) rfl rfl HF.out.1 Tryd.underlying49 rfl HSz.out) rfl ⟨by rw [HC.out], HF.out.2⟩
end Go.Proofs.YtgipmjpkaemdkaaDoor
