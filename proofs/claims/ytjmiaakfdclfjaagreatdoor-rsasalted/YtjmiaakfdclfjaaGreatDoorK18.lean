/-
  Digest: the walk of mix256.
-/
import Derived.Test.YtjmiaakfdclfjaaGreatDoorK17
namespace Go.Proofs.YtjmiaakfdclfjaaGreatDoor.Sh
open Go.RowKit
set_option maxRecDepth 20000
theorem mixset (L S : List Int) (i : Nat) (hL : L.length = 8) (hS : S.length = 8) (hi : i < 8) : (L.take i ++ S.drop i).set i (L.getD i 0) = L.take (i + 1) ++ S.drop (i + 1) := by
  have h1 : (L.take i).length = i := by simp; omega
  rw [List.set_append_right _ _ (by omega), h1, Nat.sub_self, List.drop_eq_getElem_cons (by omega), List.set_cons_zero, List.take_succ_eq_append_getElem (by omega), List.append_assoc]
  simp [show i < L.length by omega]
theorem mixget (L S : List Int) (i : Nat) (hL : L.length = 8) (hS : S.length = 8) (hi : i < 8) : (L.take i ++ S.drop i).getD i 0 = S.getD i 0 := by
  have h1 : (L.take i).length = i := by simp; omega
  rw [List.getD_eq_getElem?_getD, List.getElem?_append_right (by omega), h1, Nat.sub_self, List.getElem?_drop]
  simp [show i < S.length by omega]
theorem turns32_I (x i j k : Int) (w : World) (hx : U32 x) (hi : 1 ≤ i ∧ i ≤ 31) (hj : 1 ≤ j ∧ j ≤ 31) (hk : 1 ≤ k ∧ k ≤ 31) :
    Calls Tryz.prog 112 #[.int .u32 x, .int .i64 i, .int .i64 j, .int .i64 k] w fun e w' => e = .returned (.int .u32 (trn32 x i.toNat j.toNat k.toNat)) ∧ w' = w := by
  obtain ⟨i, rfl⟩ := Int.eq_ofNat_of_zero_le (show 0 ≤ i by omega)
  obtain ⟨j, rfl⟩ := Int.eq_ofNat_of_zero_le (show 0 ≤ j by omega)
  obtain ⟨k, rfl⟩ := Int.eq_ofNat_of_zero_le (show 0 ≤ k by omega)
  simp only [Int.toNat_natCast]
  exact (turns32_any x hx i j k (by omega) (by omega) (by omega)).mono fun _ _ h => ⟨h.1, h.2.symm⟩
theorem Tryz.one256 : (Tryz.prog.info? 38).map (·.size) = some 1 := by kernel_rfl
theorem Tryz.eight256 : (Tryz.prog.info? 69).map (·.size) = some 8 := by kernel_rfl
theorem adds256_len : adds256L.length = 64 := by decide
theorem mixed256 (s0 s1 s2 s3 s4 s5 s6 s7 a b c d e f g h : Int) (i : Nat) (hi : i < 8) : ([(s0 + a) % 4294967296, (s1 + b) % 4294967296, (s2 + c) % 4294967296, (s3 + d) % 4294967296, (s4 + e) % 4294967296, (s5 + f) % 4294967296, (s6 + g) % 4294967296, (s7 + h) % 4294967296] : List Int).getD i 0 = (([s0, s1, s2, s3, s4, s5, s6, s7] : List Int).getD i 0 + ([a, b, c, d, e, f, g, h] : List Int).getD i 0) % 4294967296 := by
  match i, hi with
  | 0, _ => rfl
  | 1, _ => rfl
  | 2, _ => rfl
  | 3, _ => rfl
  | 4, _ => rfl
  | 5, _ => rfl
  | 6, _ => rfl
  | 7, _ => rfl
set_option maxRecDepth 4000 in
set_option maxHeartbeats 2000000 in
theorem mix256_any {w : World} (s : R8) (hs : s.ok U32) (b off len c : Nat) (bs : List Int) (hb : b < w.heap.size) (hr : Rd .u8 w b off bs) (ub : U8s bs) (hlen : bs.length ≤ len) (hlc : len ≤ c) (hbs : bs.length = 64) (hT : Tabs w) :
    Calls Tryz.prog 101 #[.agg (s.list.map (Value.int .u32)).toArray, .slice (some ⟨b, off, none⟩) len c] w fun e w' => e = .returned (.agg ((mx256 s bs).list.map (Value.int .u32)).toArray) ∧ Below w.heap.size w w' := by
  obtain ⟨s0, s1, s2, s3, s4, s5, s6, s7⟩ := s
  have HM : Hid (∀ r, rnd256 (sch256 bs 64) ⟨s0, s1, s2, s3, s4, s5, s6, s7⟩ 64 = r → (mx256 ⟨s0, s1, s2, s3, s4, s5, s6, s7⟩ bs).list = [(s0 + r.a) % 4294967296, (s1 + r.b) % 4294967296, (s2 + r.c) % 4294967296, (s3 + r.d) % 4294967296, (s4 + r.e) % 4294967296, (s5 + r.f) % 4294967296, (s6 + r.g) % 4294967296, (s7 + r.h) % 4294967296]) := fun r h => by subst h; rfl
  have HK : Hid (∀ t, (rnd256 (sch256 bs 64) ⟨s0, s1, s2, s3, s4, s5, s6, s7⟩ t).ok U32) := fun t => rnd256_ok hs t
  have HT : Hid (Tabs w) := hT
  have hz7 := hT.size
  clear hT hs
  show Calls Tryz.prog _ #[.agg #[.int .u32 s0, .int .u32 s1, .int .u32 s2, .int .u32 s3, .int .u32 s4, .int .u32 s5, .int .u32 s6, .int .u32 s7], _] w _
  go_enter Tryz.func101, Tryz.ntmps101
  go_upto_region 1 with (fail)
  go_quiet (fail)
  go_upto_region 2 with (fail)
  go_quiet (fail)
  have hW0 : ∀ (o1 o2 : Obj) (n : Nat), Below w.heap.size w (((w.alloc o1).alloc o2).drewN n) := fun o1 o2 n => below_drewN _ (((Below.refl _ _).alloc (Nat.le_refl _) _).alloc (by simp) _)
  go_wp2_with (go_at_call 111; refine (words256_any b off len c bs (by simp; omega) (by exact below_rd (hW0 _ _ _) hb hr) ub hlen hlc hbs).mono ?_; rintro e w1 ⟨rfl, hb1⟩)
  have hB0 : Below w.heap.size w w1 := (hW0 _ _ _).trans (hb1.mono (by simp; omega))
  have hS1 : Blk 69 w1 w.heap.size [.int .u32 s0, .int .u32 s1, .int .u32 s2, .int .u32 s3, .int .u32 s4, .int .u32 s5, .int .u32 s6, .int .u32 s7] := below_blk hb1 (by simp; omega) ((Blk.new _ w _).alloc _)
  have hZ1 : Blk 69 w1 (w.heap.size + 1) [.int .u32 0, .int .u32 0, .int .u32 0, .int .u32 0, .int .u32 0, .int .u32 0, .int .u32 0, .int .u32 0] := below_blk hb1 (by simp) (by have := Blk.new 69 (w.alloc (.cells #[.int .u32 s0, .int .u32 s1, .int .u32 s2, .int .u32 s3, .int .u32 s4, .int .u32 s5, .int .u32 s6, .int .u32 s7] 69)) [.int .u32 0, .int .u32 0, .int .u32 0, .int .u32 0, .int .u32 0, .int .u32 0, .int .u32 0, .int .u32 0]; exact (by simpa using this : Blk 69 _ (w.heap.size + 1) _).drewN _)
  have HH : Hid (Below w.heap.size w w1 ∧ Blk 69 w1 w.heap.size [.int .u32 s0, .int .u32 s1, .int .u32 s2, .int .u32 s3, .int .u32 s4, .int .u32 s5, .int .u32 s6, .int .u32 s7] ∧ Blk 69 w1 (w.heap.size + 1) [.int .u32 0, .int .u32 0, .int .u32 0, .int .u32 0, .int .u32 0, .int .u32 0, .int .u32 0, .int .u32 0] ∧ Tabs w1) := ⟨hB0, hS1, hZ1, HT.out.below hB0⟩
  clear hb1 hB0 hS1 hZ1 hW0
  have hWl := sch256_len bs 64
  obtain ⟨W, hW⟩ : ∃ W, sch256 bs 64 = W := ⟨_, rfl⟩
  rw [hW] at HM HK hWl
  simp only [hW]
  clear hW
  go_loopw [5, 6, 7, 8, 9, 10, 11, 12, 37] (fun va vb vc vd ve vf vg vh iv wr => ∃ (t q : Nat), iv = .int .i64 t ∧ t ≤ 64 ∧ va = .int .u32 (rnd256 W ⟨s0, s1, s2, s3, s4, s5, s6, s7⟩ t).a ∧ vb = .int .u32 (rnd256 W ⟨s0, s1, s2, s3, s4, s5, s6, s7⟩ t).b ∧ vc = .int .u32 (rnd256 W ⟨s0, s1, s2, s3, s4, s5, s6, s7⟩ t).c ∧ vd = .int .u32 (rnd256 W ⟨s0, s1, s2, s3, s4, s5, s6, s7⟩ t).d ∧ ve = .int .u32 (rnd256 W ⟨s0, s1, s2, s3, s4, s5, s6, s7⟩ t).e ∧ vf = .int .u32 (rnd256 W ⟨s0, s1, s2, s3, s4, s5, s6, s7⟩ t).f ∧ vg = .int .u32 (rnd256 W ⟨s0, s1, s2, s3, s4, s5, s6, s7⟩ t).g ∧ vh = .int .u32 (rnd256 W ⟨s0, s1, s2, s3, s4, s5, s6, s7⟩ t).h ∧ wr = w1.drewN q) (fun _ _ _ _ _ _ _ _ iv _ => 64 - (intOf iv).toNat)
  case atStart => exact ⟨0, 0, rfl, by omega, rfl, rfl, rfl, rfl, rfl, rfl, rfl, rfl, rfl⟩
  case round =>
    obtain ⟨t, q, rfl, ht, rfl, rfl, rfl, rfl, rfl, rfl, rfl, rfl, hwr⟩ := hrel
    have HW : Hid (wr = w1.drewN q) := hwr
    clear hwr
    obtain ⟨r, hrr⟩ : ∃ r, rnd256 W ⟨s0, s1, s2, s3, s4, s5, s6, s7⟩ t = r := ⟨_, rfl⟩
    have hok := HK.out t
    have HR : Hid (rnd256 W ⟨s0, s1, s2, s3, s4, s5, s6, s7⟩ t = r) := hrr
    rw [hrr] at hok
    simp only [hrr]
    clear hrr
    obtain ⟨a, b, c, d, e, f, g, h⟩ := r
    have HU : Hid (U32 a ∧ U32 e) := ⟨hok.1, hok.2.2.2.2.1⟩
    clear hok
    by_cases hlt : t < 64
    · have hk : wr.cell? ⟨6, t, none⟩ = some (.int .u32 (adds256L.getD t 0)) := by
        rw [HW.out]
        have := HH.out.2.2.2.a256 t (by rw [adds256_len]; exact hlt)
        simpa using this
      have hx : ∀ w' : World, Sem.run Tryz.prog (Instr.index 67 (.agg (W.map (Value.int .u32)).toArray) (.int .i64 t)) w' = .ok (.int .u32 (W.getD t 0)) w' := fun w' => run_index_row w' _ _ 64 .u32 W t Tryz.underlying67 Tryz.underlying38 Tryz.one256 hWl hlt
      obtain ⟨k, hk0⟩ : ∃ k, adds256L.getD t 0 = k := ⟨_, rfl⟩
      obtain ⟨x, hx0⟩ : ∃ x, W.getD t 0 = x := ⟨_, rfl⟩
      rw [hk0] at hk
      rw [hx0] at hx
      have HV : Hid (rnd256 W ⟨s0, s1, s2, s3, s4, s5, s6, s7⟩ (t + 1) = ⟨((h + trn32 e 6 11 25 + bits .xor .u32 (bits .and .u32 e f) (bits .and .u32 (bits .xor .u32 IntKind.u32.max e) g) + k + x) % 4294967296 + (trn32 a 2 13 22 + bits .xor .u32 (bits .xor .u32 (bits .and .u32 a b) (bits .and .u32 a c)) (bits .and .u32 b c)) % 4294967296) % 4294967296, a, b, c, (d + (h + trn32 e 6 11 25 + bits .xor .u32 (bits .and .u32 e f) (bits .and .u32 (bits .xor .u32 IntKind.u32.max e) g) + k + x) % 4294967296) % 4294967296, e, f, g⟩) := by
        show stp256 W t _ = _
        rw [HR.out]; unfold stp256; simp only []; rw [hk0, hx0]
      clear hk0 hx0
      have ht0 : (t : Int) < 64 := by omega
      go_upto_region 6 with (fail)
      go_quiet ((go_at_call 112; exact Calls.quiet_of_same (turns32_I _ _ _ _ _ HU.out.2 (by omega) (by omega) (by omega))))
      go_wp2_with (go_at_call 112; refine (turns32_I _ _ _ _ _ HU.out.1 (by omega) (by omega) (by omega)).mono ?_; rintro e' w' ⟨rfl, rfl⟩)
      go_roundw
      case rel =>
        refine ⟨t + 1, q + nq, by go_num, by omega, ?_⟩
        rw [HV.out]
        simp only [show (if IntKind.u32.signed = true then (-1 : Int) else IntKind.u32.max) = IntKind.u32.max from rfl, true_and]
        rw [HW.out, World.drewN_drewN]
      case measure => simp [intOf]; omega
    · obtain rfl : t = 64 := by omega
      have hM := HM.out _ HR.out
      obtain ⟨L, hL⟩ : ∃ L, (mx256 ⟨s0, s1, s2, s3, s4, s5, s6, s7⟩ bs).list = L := ⟨_, rfl⟩
      rw [hL] at hM
      have HL : Hid ((mx256 ⟨s0, s1, s2, s3, s4, s5, s6, s7⟩ bs).list = L) := hL
      have hLl : L.length = 8 := by rw [hM]; rfl
      have HX : Hid (∀ i, i < 8 → L.getD i 0 = (([s0, s1, s2, s3, s4, s5, s6, s7] : List Int).getD i 0 + ([a, b, c, d, e, f, g, h] : List Int).getD i 0) % 4294967296) := fun i hi => by rw [hM]; exact mixed256 _ _ _ _ _ _ _ _ _ _ _ _ _ _ _ _ i hi
      have HI : Hid (Below w.heap.size w wr ∧ Arr .u32 69 wr w.heap.size (L.take 0 ++ ([s0, s1, s2, s3, s4, s5, s6, s7] : List Int).drop 0) ∧ Blk 69 wr (w.heap.size + 1) [.int .u32 0, .int .u32 0, .int .u32 0, .int .u32 0, .int .u32 0, .int .u32 0, .int .u32 0, .int .u32 0]) := by
        rw [HW.out]; exact ⟨below_drewN q HH.out.1, HH.out.2.1, HH.out.2.2.1⟩
      clear hM hL
      go_wp2_with fail
      go_loopw [96] (fun iv wr => ∃ i : Nat, iv = .int .i64 i ∧ i ≤ 8 ∧ Arr .u32 69 wr w.heap.size (L.take i ++ ([s0, s1, s2, s3, s4, s5, s6, s7] : List Int).drop i) ∧ Blk 69 wr (w.heap.size + 1) [.int .u32 0, .int .u32 0, .int .u32 0, .int .u32 0, .int .u32 0, .int .u32 0, .int .u32 0, .int .u32 0] ∧ Below w.heap.size w wr) (fun iv _ => 8 - (intOf iv).toNat)
      case atStart => exact ⟨0, rfl, by omega, HI.out.2.1, HI.out.2.2, HI.out.1⟩
      case round =>
        obtain ⟨i, rfl, hi, hA, hZ, hBw⟩ := hrel
        by_cases hi8 : i < 8
        · have hlen8 : (L.take i ++ ([s0, s1, s2, s3, s4, s5, s6, s7] : List Int).drop i).length = 8 := by simp [hLl]; omega
          have hset := mixset L [s0, s1, s2, s3, s4, s5, s6, s7] i hLl rfl hi8
          have hc0 := hA.cell i (by omega)
          have e0 := mixget L [s0, s1, s2, s3, s4, s5, s6, s7] i hLl rfl hi8
          rw [e0] at hc0
          have hf0 := hA.frozen i
          have hx2 : ∀ w' : World, Sem.run Tryz.prog (Instr.index 69 (.agg #[.int .u32 a, .int .u32 b, .int .u32 c, .int .u32 d, .int .u32 e, .int .u32 f, .int .u32 g, .int .u32 h]) (.int .i64 i)) w' = .ok (.int .u32 (([a, b, c, d, e, f, g, h] : List Int).getD i 0)) w' := fun w' => run_index_row w' _ _ 8 .u32 [a, b, c, d, e, f, g, h] i Tryz.underlying69 Tryz.underlying38 Tryz.one256 rfl hi8
          have hX := HX.out i hi8
          obtain ⟨o, ho⟩ : ∃ o, ([s0, s1, s2, s3, s4, s5, s6, s7] : List Int).getD i 0 = o := ⟨_, rfl⟩
          obtain ⟨x, hx0⟩ : ∃ x, ([a, b, c, d, e, f, g, h] : List Int).getD i 0 = x := ⟨_, rfl⟩
          rw [ho] at hc0 hX
          rw [hx0] at hx2 hX
          have HV : Hid (L.getD i 0 = (o + x) % 4294967296) := hX
          have HN : Hid (Arr .u32 69 wr w.heap.size (L.take i ++ ([s0, s1, s2, s3, s4, s5, s6, s7] : List Int).drop i) ∧ Blk 69 wr (w.heap.size + 1) [.int .u32 0, .int .u32 0, .int .u32 0, .int .u32 0, .int .u32 0, .int .u32 0, .int .u32 0, .int .u32 0] ∧ Below w.heap.size w wr ∧ (L.take i ++ ([s0, s1, s2, s3, s4, s5, s6, s7] : List Int).drop i).set i (L.getD i 0) = L.take (i + 1) ++ ([s0, s1, s2, s3, s4, s5, s6, s7] : List Int).drop (i + 1)) := ⟨hA, hZ, hBw, hset⟩
          clear hX hA hZ hBw hset hlen8 e0 ho hx0
          have hi0 : (i : Int) < 8 := by omega
          go_wp2
          go_roundw
          case rel =>
            obtain ⟨hA, hZ, hBw, hset⟩ := HN.out
            refine ⟨i + 1, by go_num, by omega, ?_, (Upd.set _ _ _ _).blk hZ (by omega), (Upd.set wr w.heap.size i _).below hBw hBw.size (Nat.le_refl _)⟩
            have := hA.set i (L.getD i 0)
            rw [hset, HV.out] at this; exact this
          case measure => simp [intOf]; omega
        · obtain rfl : i = 8 := by omega
          obtain ⟨cs, hcs⟩ : ∃ cs, L.map (Value.int .u32) = cs := ⟨_, rfl⟩
          have hA2 : Blk 69 wr w.heap.size cs := by
            have := hA.blk
            rw [List.take_of_length_le (by omega), List.drop_of_length_le (by simp), List.append_nil, hcs] at this; exact this
          have hlc : cs.length = 8 := by rw [← hcs]; simp [hLl]
          have HO : Hid (cs.toArray.all (·.oneCell') = true) := by rw [← hcs]; exact ints_one _ _
          have HC : Hid ((mx256 ⟨s0, s1, s2, s3, s4, s5, s6, s7⟩ bs).list.map (Value.int .u32) = cs) := by rw [HL.out]; exact hcs
          have HF : Hid (Blk 69 (wr.setCells (w.heap.size + 1) 0 cs) (w.heap.size + 1) cs ∧ Below w.heap.size w (wr.setCells (w.heap.size + 1) 0 cs)) := ⟨hZ.fill cs (by rw [hlc]; rfl), (Upd.setCells cs 0 wr).below hBw hBw.size (by omega)⟩
          have HS2 : Hid (wr.rangeAt w.heap.size 0 cs ∧ wr.there (w.heap.size + 1) 0 cs.toArray.size) := ⟨hA2.whole, hZ.there 0 _ (by simp [hlc])⟩
          have HSz : Hid ((Tryz.prog.info? 69).map (·.size) = some cs.length) := by rw [hlc]; exact Tryz.eight256
          clear hA2 hZ hBw hlc hcs hA
          go_wp2_with (first
            | (refine wpList_load_mid rfl _ _ rfl w.heap.size 0 rfl cs _ HS2.out.1 Tryz.underlying69 rfl HSz.out ?_)
            | (refine wpList_store_mid rfl _ _ _ rfl (w.heap.size + 1) 0 cs.toArray rfl rfl HS2.out.2 (by simpa using HSz.out) HO.out ?_))
          refine bodyPost_ret (v := .agg cs.toArray) (results_blk (b := w.heap.size + 1) (cs := cs) rfl rfl HF.out.1 Tryz.underlying69 rfl HSz.out) rfl ⟨by rw [HC.out], HF.out.2⟩
end Go.Proofs.YtjmiaakfdclfjaaGreatDoor.Sh
/-
  Digest: the walk of mix512.
-/
namespace Go.Proofs.YtjmiaakfdclfjaaGreatDoor.Sh
open Go.RowKit
set_option maxRecDepth 20000
theorem turns64_I (x i j k : Int) (w : World) (hx : U64 x) (hi : 1 ≤ i ∧ i ≤ 63) (hj : 1 ≤ j ∧ j ≤ 63) (hk : 1 ≤ k ∧ k ≤ 63) :
    Calls Tryz.prog 114 #[.int .u64 x, .int .i64 i, .int .i64 j, .int .i64 k] w fun e w' => e = .returned (.int .u64 (trn64 x i.toNat j.toNat k.toNat)) ∧ w' = w := by
  obtain ⟨i, rfl⟩ := Int.eq_ofNat_of_zero_le (show 0 ≤ i by omega)
  obtain ⟨j, rfl⟩ := Int.eq_ofNat_of_zero_le (show 0 ≤ j by omega)
  obtain ⟨k, rfl⟩ := Int.eq_ofNat_of_zero_le (show 0 ≤ k by omega)
  simp only [Int.toNat_natCast]
  exact (turns64_any x hx i j k (by omega) (by omega) (by omega)).mono fun _ _ h => ⟨h.1, h.2.symm⟩
theorem Tryz.one512 : (Tryz.prog.info? 43).map (·.size) = some 1 := by kernel_rfl
theorem Tryz.eight512 : (Tryz.prog.info? 44).map (·.size) = some 8 := by kernel_rfl
theorem adds512_len : adds512L.length = 80 := by decide
theorem mixed512 (s0 s1 s2 s3 s4 s5 s6 s7 a b c d e f g h : Int) (i : Nat) (hi : i < 8) : ([IntKind.u64.wrap (s0 + a), IntKind.u64.wrap (s1 + b), IntKind.u64.wrap (s2 + c), IntKind.u64.wrap (s3 + d), IntKind.u64.wrap (s4 + e), IntKind.u64.wrap (s5 + f), IntKind.u64.wrap (s6 + g), IntKind.u64.wrap (s7 + h)] : List Int).getD i 0 = IntKind.u64.wrap (([s0, s1, s2, s3, s4, s5, s6, s7] : List Int).getD i 0 + ([a, b, c, d, e, f, g, h] : List Int).getD i 0) := by
  match i, hi with
  | 0, _ => rfl
  | 1, _ => rfl
  | 2, _ => rfl
  | 3, _ => rfl
  | 4, _ => rfl
  | 5, _ => rfl
  | 6, _ => rfl
  | 7, _ => rfl
set_option maxRecDepth 4000 in
set_option maxHeartbeats 2000000 in
theorem mix512_any {w : World} (s : R8) (hs : s.ok U64) (b off len c : Nat) (bs : List Int) (hb : b < w.heap.size) (hr : Rd .u8 w b off bs) (ub : U8s bs) (hlen : bs.length ≤ len) (hlc : len ≤ c) (hbs : bs.length = 128) (hT : Tabs w) :
    Calls Tryz.prog 102 #[.agg (s.list.map (Value.int .u64)).toArray, .slice (some ⟨b, off, none⟩) len c] w fun e w' => e = .returned (.agg ((mx512 s bs).list.map (Value.int .u64)).toArray) ∧ Below w.heap.size w w' := by
  obtain ⟨s0, s1, s2, s3, s4, s5, s6, s7⟩ := s
  have HM : Hid (∀ r, rnd512 (sch512 bs 80) ⟨s0, s1, s2, s3, s4, s5, s6, s7⟩ 80 = r → (mx512 ⟨s0, s1, s2, s3, s4, s5, s6, s7⟩ bs).list = [IntKind.u64.wrap (s0 + r.a), IntKind.u64.wrap (s1 + r.b), IntKind.u64.wrap (s2 + r.c), IntKind.u64.wrap (s3 + r.d), IntKind.u64.wrap (s4 + r.e), IntKind.u64.wrap (s5 + r.f), IntKind.u64.wrap (s6 + r.g), IntKind.u64.wrap (s7 + r.h)]) := fun r h => by subst h; rfl
  have HK : Hid (∀ t, (rnd512 (sch512 bs 80) ⟨s0, s1, s2, s3, s4, s5, s6, s7⟩ t).ok U64) := fun t => rnd512_ok hs t
  have HT : Hid (Tabs w) := hT
  have hz7 := hT.size
  clear hT hs
  show Calls Tryz.prog _ #[.agg #[.int .u64 s0, .int .u64 s1, .int .u64 s2, .int .u64 s3, .int .u64 s4, .int .u64 s5, .int .u64 s6, .int .u64 s7], _] w _
  go_enter Tryz.func102, Tryz.ntmps102
  go_upto_region 1 with (fail)
  go_quiet (fail)
  go_upto_region 2 with (fail)
  go_quiet (fail)
  have hW0 : ∀ (o1 o2 : Obj) (n : Nat), Below w.heap.size w (((w.alloc o1).alloc o2).drewN n) := fun o1 o2 n => below_drewN _ (((Below.refl _ _).alloc (Nat.le_refl _) _).alloc (by simp) _)
  go_wp2_with (go_at_call 113; refine (words512_any b off len c bs (by simp; omega) (by exact below_rd (hW0 _ _ _) hb hr) ub hlen hlc hbs).mono ?_; rintro e w1 ⟨rfl, hb1⟩)
  have hB0 : Below w.heap.size w w1 := (hW0 _ _ _).trans (hb1.mono (by simp; omega))
  have hS1 : Blk 44 w1 w.heap.size [.int .u64 s0, .int .u64 s1, .int .u64 s2, .int .u64 s3, .int .u64 s4, .int .u64 s5, .int .u64 s6, .int .u64 s7] := below_blk hb1 (by simp; omega) ((Blk.new _ w _).alloc _)
  have hZ1 : Blk 44 w1 (w.heap.size + 1) [.int .u64 0, .int .u64 0, .int .u64 0, .int .u64 0, .int .u64 0, .int .u64 0, .int .u64 0, .int .u64 0] := below_blk hb1 (by simp) (by have := Blk.new 44 (w.alloc (.cells #[.int .u64 s0, .int .u64 s1, .int .u64 s2, .int .u64 s3, .int .u64 s4, .int .u64 s5, .int .u64 s6, .int .u64 s7] 44)) [.int .u64 0, .int .u64 0, .int .u64 0, .int .u64 0, .int .u64 0, .int .u64 0, .int .u64 0, .int .u64 0]; exact (by simpa using this : Blk 44 _ (w.heap.size + 1) _).drewN _)
  have HH : Hid (Below w.heap.size w w1 ∧ Blk 44 w1 w.heap.size [.int .u64 s0, .int .u64 s1, .int .u64 s2, .int .u64 s3, .int .u64 s4, .int .u64 s5, .int .u64 s6, .int .u64 s7] ∧ Blk 44 w1 (w.heap.size + 1) [.int .u64 0, .int .u64 0, .int .u64 0, .int .u64 0, .int .u64 0, .int .u64 0, .int .u64 0, .int .u64 0] ∧ Tabs w1) := ⟨hB0, hS1, hZ1, HT.out.below hB0⟩
  clear hb1 hB0 hS1 hZ1 hW0
  have hWl := sch512_len bs 80
  obtain ⟨W, hW⟩ : ∃ W, sch512 bs 80 = W := ⟨_, rfl⟩
  rw [hW] at HM HK hWl
  simp only [hW]
  clear hW
  go_loopw [5, 6, 7, 8, 9, 10, 11, 12, 37] (fun va vb vc vd ve vf vg vh iv wr => ∃ (t q : Nat), iv = .int .i64 t ∧ t ≤ 80 ∧ va = .int .u64 (rnd512 W ⟨s0, s1, s2, s3, s4, s5, s6, s7⟩ t).a ∧ vb = .int .u64 (rnd512 W ⟨s0, s1, s2, s3, s4, s5, s6, s7⟩ t).b ∧ vc = .int .u64 (rnd512 W ⟨s0, s1, s2, s3, s4, s5, s6, s7⟩ t).c ∧ vd = .int .u64 (rnd512 W ⟨s0, s1, s2, s3, s4, s5, s6, s7⟩ t).d ∧ ve = .int .u64 (rnd512 W ⟨s0, s1, s2, s3, s4, s5, s6, s7⟩ t).e ∧ vf = .int .u64 (rnd512 W ⟨s0, s1, s2, s3, s4, s5, s6, s7⟩ t).f ∧ vg = .int .u64 (rnd512 W ⟨s0, s1, s2, s3, s4, s5, s6, s7⟩ t).g ∧ vh = .int .u64 (rnd512 W ⟨s0, s1, s2, s3, s4, s5, s6, s7⟩ t).h ∧ wr = w1.drewN q) (fun _ _ _ _ _ _ _ _ iv _ => 80 - (intOf iv).toNat)
  case atStart => exact ⟨0, 0, rfl, by omega, rfl, rfl, rfl, rfl, rfl, rfl, rfl, rfl, rfl⟩
  case round =>
    obtain ⟨t, q, rfl, ht, rfl, rfl, rfl, rfl, rfl, rfl, rfl, rfl, hwr⟩ := hrel
    have HW : Hid (wr = w1.drewN q) := hwr
    clear hwr
    obtain ⟨r, hrr⟩ : ∃ r, rnd512 W ⟨s0, s1, s2, s3, s4, s5, s6, s7⟩ t = r := ⟨_, rfl⟩
    have hok := HK.out t
    have HR : Hid (rnd512 W ⟨s0, s1, s2, s3, s4, s5, s6, s7⟩ t = r) := hrr
    rw [hrr] at hok
    simp only [hrr]
    clear hrr
    obtain ⟨a, b, c, d, e, f, g, h⟩ := r
    have HU : Hid (U64 a ∧ U64 e) := ⟨hok.1, hok.2.2.2.2.1⟩
    clear hok
    by_cases hlt : t < 80
    · have hk : wr.cell? ⟨7, t, none⟩ = some (.int .u64 (adds512L.getD t 0)) := by
        rw [HW.out]
        have := HH.out.2.2.2.a512 t (by rw [adds512_len]; exact hlt)
        simpa using this
      have hx : ∀ w' : World, Sem.run Tryz.prog (Instr.index 70 (.agg (W.map (Value.int .u64)).toArray) (.int .i64 t)) w' = .ok (.int .u64 (W.getD t 0)) w' := fun w' => run_index_row w' _ _ 80 .u64 W t Tryz.underlying70 Tryz.underlying43 Tryz.one512 hWl hlt
      obtain ⟨k, hk0⟩ : ∃ k, adds512L.getD t 0 = k := ⟨_, rfl⟩
      obtain ⟨x, hx0⟩ : ∃ x, W.getD t 0 = x := ⟨_, rfl⟩
      rw [hk0] at hk
      rw [hx0] at hx
      have HV : Hid (rnd512 W ⟨s0, s1, s2, s3, s4, s5, s6, s7⟩ (t + 1) = ⟨IntKind.u64.wrap (IntKind.u64.wrap (IntKind.u64.wrap (IntKind.u64.wrap (IntKind.u64.wrap (h + trn64 e 14 18 41) + bits .xor .u64 (bits .and .u64 e f) (bits .and .u64 (bits .xor .u64 IntKind.u64.max e) g)) + k) + x) + IntKind.u64.wrap (trn64 a 28 34 39 + bits .xor .u64 (bits .xor .u64 (bits .and .u64 a b) (bits .and .u64 a c)) (bits .and .u64 b c))), a, b, c, IntKind.u64.wrap (d + IntKind.u64.wrap (IntKind.u64.wrap (IntKind.u64.wrap (IntKind.u64.wrap (h + trn64 e 14 18 41) + bits .xor .u64 (bits .and .u64 e f) (bits .and .u64 (bits .xor .u64 IntKind.u64.max e) g)) + k) + x)), e, f, g⟩) := by
        show stp512 W t _ = _
        rw [HR.out]; unfold stp512; simp only []; rw [hk0, hx0]
      clear hk0 hx0
      have ht0 : (t : Int) < 80 := by omega
      go_upto_region 6 with (fail)
      go_quiet ((go_at_call 114; exact Calls.quiet_of_same (turns64_I _ _ _ _ _ HU.out.2 (by omega) (by omega) (by omega))))
      go_wp2_with (go_at_call 114; refine (turns64_I _ _ _ _ _ HU.out.1 (by omega) (by omega) (by omega)).mono ?_; rintro e' w' ⟨rfl, rfl⟩)
      go_roundw
      case rel =>
        refine ⟨t + 1, q + nq, by go_num, by omega, ?_⟩
        rw [HV.out]
        simp only [show (if IntKind.u64.signed = true then (-1 : Int) else IntKind.u64.max) = IntKind.u64.max from rfl, true_and]
        rw [HW.out, World.drewN_drewN]
      case measure => simp [intOf]; omega
    · obtain rfl : t = 80 := by omega
      have hM := HM.out _ HR.out
      obtain ⟨L, hL⟩ : ∃ L, (mx512 ⟨s0, s1, s2, s3, s4, s5, s6, s7⟩ bs).list = L := ⟨_, rfl⟩
      rw [hL] at hM
      have HL : Hid ((mx512 ⟨s0, s1, s2, s3, s4, s5, s6, s7⟩ bs).list = L) := hL
      have hLl : L.length = 8 := by rw [hM]; rfl
      have HX : Hid (∀ i, i < 8 → L.getD i 0 = IntKind.u64.wrap (([s0, s1, s2, s3, s4, s5, s6, s7] : List Int).getD i 0 + ([a, b, c, d, e, f, g, h] : List Int).getD i 0)) := fun i hi => by rw [hM]; exact mixed512 _ _ _ _ _ _ _ _ _ _ _ _ _ _ _ _ i hi
      have HI : Hid (Below w.heap.size w wr ∧ Arr .u64 44 wr w.heap.size (L.take 0 ++ ([s0, s1, s2, s3, s4, s5, s6, s7] : List Int).drop 0) ∧ Blk 44 wr (w.heap.size + 1) [.int .u64 0, .int .u64 0, .int .u64 0, .int .u64 0, .int .u64 0, .int .u64 0, .int .u64 0, .int .u64 0]) := by
        rw [HW.out]; exact ⟨below_drewN q HH.out.1, HH.out.2.1, HH.out.2.2.1⟩
      clear hM hL
      go_wp2_with fail
      go_loopw [96] (fun iv wr => ∃ i : Nat, iv = .int .i64 i ∧ i ≤ 8 ∧ Arr .u64 44 wr w.heap.size (L.take i ++ ([s0, s1, s2, s3, s4, s5, s6, s7] : List Int).drop i) ∧ Blk 44 wr (w.heap.size + 1) [.int .u64 0, .int .u64 0, .int .u64 0, .int .u64 0, .int .u64 0, .int .u64 0, .int .u64 0, .int .u64 0] ∧ Below w.heap.size w wr) (fun iv _ => 8 - (intOf iv).toNat)
      case atStart => exact ⟨0, rfl, by omega, HI.out.2.1, HI.out.2.2, HI.out.1⟩
      case round =>
        obtain ⟨i, rfl, hi, hA, hZ, hBw⟩ := hrel
        by_cases hi8 : i < 8
        · have hlen8 : (L.take i ++ ([s0, s1, s2, s3, s4, s5, s6, s7] : List Int).drop i).length = 8 := by simp [hLl]; omega
          have hset := mixset L [s0, s1, s2, s3, s4, s5, s6, s7] i hLl rfl hi8
          have hc0 := hA.cell i (by omega)
          have e0 := mixget L [s0, s1, s2, s3, s4, s5, s6, s7] i hLl rfl hi8
          rw [e0] at hc0
          have hf0 := hA.frozen i
          have hx2 : ∀ w' : World, Sem.run Tryz.prog (Instr.index 44 (.agg #[.int .u64 a, .int .u64 b, .int .u64 c, .int .u64 d, .int .u64 e, .int .u64 f, .int .u64 g, .int .u64 h]) (.int .i64 i)) w' = .ok (.int .u64 (([a, b, c, d, e, f, g, h] : List Int).getD i 0)) w' := fun w' => run_index_row w' _ _ 8 .u64 [a, b, c, d, e, f, g, h] i Tryz.underlying44 Tryz.underlying43 Tryz.one512 rfl hi8
          have hX := HX.out i hi8
          obtain ⟨o, ho⟩ : ∃ o, ([s0, s1, s2, s3, s4, s5, s6, s7] : List Int).getD i 0 = o := ⟨_, rfl⟩
          obtain ⟨x, hx0⟩ : ∃ x, ([a, b, c, d, e, f, g, h] : List Int).getD i 0 = x := ⟨_, rfl⟩
          rw [ho] at hc0 hX
          rw [hx0] at hx2 hX
          have HV : Hid (L.getD i 0 = IntKind.u64.wrap (o + x)) := hX
          have HN : Hid (Arr .u64 44 wr w.heap.size (L.take i ++ ([s0, s1, s2, s3, s4, s5, s6, s7] : List Int).drop i) ∧ Blk 44 wr (w.heap.size + 1) [.int .u64 0, .int .u64 0, .int .u64 0, .int .u64 0, .int .u64 0, .int .u64 0, .int .u64 0, .int .u64 0] ∧ Below w.heap.size w wr ∧ (L.take i ++ ([s0, s1, s2, s3, s4, s5, s6, s7] : List Int).drop i).set i (L.getD i 0) = L.take (i + 1) ++ ([s0, s1, s2, s3, s4, s5, s6, s7] : List Int).drop (i + 1)) := ⟨hA, hZ, hBw, hset⟩
          clear hX hA hZ hBw hset hlen8 e0 ho hx0
          have hi0 : (i : Int) < 8 := by omega
          go_wp2
          go_roundw
          case rel =>
            obtain ⟨hA, hZ, hBw, hset⟩ := HN.out
            refine ⟨i + 1, by go_num, by omega, ?_, (Upd.set _ _ _ _).blk hZ (by omega), (Upd.set wr w.heap.size i _).below hBw hBw.size (Nat.le_refl _)⟩
            have := hA.set i (L.getD i 0)
            rw [hset, HV.out] at this; exact this
          case measure => simp [intOf]; omega
        · obtain rfl : i = 8 := by omega
          obtain ⟨cs, hcs⟩ : ∃ cs, L.map (Value.int .u64) = cs := ⟨_, rfl⟩
          have hA2 : Blk 44 wr w.heap.size cs := by
            have := hA.blk
            rw [List.take_of_length_le (by omega), List.drop_of_length_le (by simp), List.append_nil, hcs] at this; exact this
          have hlc : cs.length = 8 := by rw [← hcs]; simp [hLl]
          have HO : Hid (cs.toArray.all (·.oneCell') = true) := by rw [← hcs]; exact ints_one _ _
          have HC : Hid ((mx512 ⟨s0, s1, s2, s3, s4, s5, s6, s7⟩ bs).list.map (Value.int .u64) = cs) := by rw [HL.out]; exact hcs
          have HF : Hid (Blk 44 (wr.setCells (w.heap.size + 1) 0 cs) (w.heap.size + 1) cs ∧ Below w.heap.size w (wr.setCells (w.heap.size + 1) 0 cs)) := ⟨hZ.fill cs (by rw [hlc]; rfl), (Upd.setCells cs 0 wr).below hBw hBw.size (by omega)⟩
          have HS2 : Hid (wr.rangeAt w.heap.size 0 cs ∧ wr.there (w.heap.size + 1) 0 cs.toArray.size) := ⟨hA2.whole, hZ.there 0 _ (by simp [hlc])⟩
          have HSz : Hid ((Tryz.prog.info? 44).map (·.size) = some cs.length) := by rw [hlc]; exact Tryz.eight512
          clear hA2 hZ hBw hlc hcs hA
          go_wp2_with (first
            | (refine wpList_load_mid rfl _ _ rfl w.heap.size 0 rfl cs _ HS2.out.1 Tryz.underlying44 rfl HSz.out ?_)
            | (refine wpList_store_mid rfl _ _ _ rfl (w.heap.size + 1) 0 cs.toArray rfl rfl HS2.out.2 (by simpa using HSz.out) HO.out ?_))
          refine bodyPost_ret (v := .agg cs.toArray) (results_blk (b := w.heap.size + 1) (cs := cs) rfl rfl HF.out.1 Tryz.underlying44 rfl HSz.out) rfl ⟨by rw [HC.out], HF.out.2⟩
end Go.Proofs.YtjmiaakfdclfjaaGreatDoor.Sh
/-
  Digest: a Hash in memory; copy into a block; Size, Block, and the method mix.
-/
namespace Go.Proofs.YtjmiaakfdclfjaaGreatDoor.Sh
open Go.RowKit
set_option maxRecDepth 20000
theorem Tryz.und8 : Tryz.prog.underlying 22 = some (.slice 5) := by kernel_rfl
theorem Tryz.one8 : (Tryz.prog.info? 5).map (·.size) = some 1 := by kernel_rfl
theorem over_nil (cs : List Value) (o : Nat) : over cs o [] = cs := by simp [over]
/-- 'copy(dst, src)', dst at a place of a whole block. -/
theorem wpList_cpB {P : Program} {w : World} {ops : Array Oper} {rest : List Oper} {o : Oper} {a : Act} {Q : Exit → Act → World → Prop} (hgd : o.guard = none) (d s : Operand) (t : TypeId)
    (ho : o.op = .call { callee := .builtin .copy, args := #[d, s], argTypes := #[t, t] }) (k : IntKind) (e T : TypeId) (hu : P.underlying t = some (.slice e)) (hsz : (P.info? e).map (·.size) = some 1)
    (g off dLen dCap : Nat) (cs : List Value) (xs : List Int) (hA : Blk T w g cs) (v : Value) (hd : a.eval d = .slice (some ⟨g, off, none⟩) dLen dCap) (hs : a.eval s = v) (hx : Sl k w v xs)
    (n : Nat) (hn : n = Nat.min xs.length dLen) (hfit : off + n ≤ cs.length)
    (h : ∀ w', Blk T w' g (over cs off ((xs.take n).map (Value.int k))) → Upd w w' g → wpList P ops Q rest (a.put o.dst (goInt n)) w') :
    wpList P ops Q (o :: rest) a w := by
  obtain ⟨sp, sCap, rfl, _, hx⟩ := hx
  have hr' : n ≤ xs.length := by rw [hn]; exact Nat.min_le_left _ _
  have hlen : ((xs.take n).map (Value.int k)).length = n := by simp; omega
  by_cases h0 : n = 0
  · refine wpList_copy_nothing hgd d s t t ho e hu hsz _ sp dLen dCap xs.length sCap hd hs (by omega) ?_
    subst h0
    exact h w (by simpa [over_nil] using hA) (Upd.refl _ _)
  · rcases hx with rfl | ⟨b, ob, rfl, hb, hr⟩
    · simp at hn; omega
    · refine wpList_copy_own (P := P) hgd d s t t ho e hu hsz g off dLen dCap ⟨b, ob, none⟩ xs.length sCap hd hs _ T hA ((xs.take n).map (Value.int k)) (by rw [hlen, hn])
        (fun j u hj => ?_) (by simp only [hlen, List.size_toArray]; exact hfit) (fun u hu => by obtain ⟨x, _, rfl⟩ := List.mem_map.1 hu; rfl) ?_
      · have hjn : j < n := by rw [← hlen]; exact (List.getElem?_eq_some_iff.1 hj).1
        have hadd : (⟨b, ob, none⟩ : Addr).add j = ⟨b, ob + j, none⟩ := by simp [Addr.add]
        rw [hadd, hr j (by omega), ← hj]
        simp [hjn, show j < xs.length by omega]
      · rw [hlen]
        have e1 : (cs.toArray.toList.take off ++ ((xs.take n).map (Value.int k) ++ cs.toArray.toList.drop (off + n))) = over cs off ((xs.take n).map (Value.int k)) := by unfold over; rw [hlen]
        rw [e1]
        exact h _ (by unfold Blk; exact setRow_heap w g _ _ T _ hA) ⟨rfl, rfl, rfl, by simp [World.setRow], fun j _ hj => setRow_other w g j _ (fun e => hj (by simp [e]))⟩
/-- How many bytes a block has, and a digest. -/
def blk (alg : Int) : Nat := if alg = 1 then 64 else if alg = 2 then 64 else if alg = 3 then 128 else if alg = 4 then 128 else 0
def siz (alg : Int) : Nat := if alg = 1 then 20 else if alg = 2 then 32 else if alg = 3 then 48 else if alg = 4 then 64 else 0
def Alg (alg : Int) : Prop := alg = 1 ∨ alg = 2 ∨ alg = 3 ∨ alg = 4
theorem ShaBlock_any {w : World} (alg : Int) : Calls Tryz.prog 82 #[.int .i64 alg] w fun e w' => e = .returned (.int .i64 (blk alg)) ∧ w' = w := by
  unfold blk
  by_cases h1 : alg = 1
  · subst h1; go_enter Tryz.func82, Tryz.ntmps82; go_wp2; go_ret; exact ⟨rfl, rfl⟩
  by_cases h2 : alg = 2
  · subst h2; go_enter Tryz.func82, Tryz.ntmps82; go_wp2; go_ret; exact ⟨rfl, rfl⟩
  by_cases h3 : alg = 3
  · subst h3; go_enter Tryz.func82, Tryz.ntmps82; go_wp2; go_ret; exact ⟨rfl, rfl⟩
  by_cases h4 : alg = 4
  · subst h4; go_enter Tryz.func82, Tryz.ntmps82; go_wp2; go_ret; exact ⟨rfl, rfl⟩
  rw [if_neg h1, if_neg h2, if_neg h3, if_neg h4]
  go_enter Tryz.func82, Tryz.ntmps82; go_wp2; go_ret; exact ⟨rfl, rfl⟩
theorem ShaSize_any {w : World} (alg : Int) : Calls Tryz.prog 48 #[.int .i64 alg] w fun e w' => e = .returned (.int .i64 (siz alg)) ∧ w' = w := by
  unfold siz
  by_cases h1 : alg = 1
  · subst h1; go_enter Tryz.func48, Tryz.ntmps48; go_wp2; go_ret; exact ⟨rfl, rfl⟩
  by_cases h2 : alg = 2
  · subst h2; go_enter Tryz.func48, Tryz.ntmps48; go_wp2; go_ret; exact ⟨rfl, rfl⟩
  by_cases h3 : alg = 3
  · subst h3; go_enter Tryz.func48, Tryz.ntmps48; go_wp2; go_ret; exact ⟨rfl, rfl⟩
  by_cases h4 : alg = 4
  · subst h4; go_enter Tryz.func48, Tryz.ntmps48; go_wp2; go_ret; exact ⟨rfl, rfl⟩
  rw [if_neg h1, if_neg h2, if_neg h3, if_neg h4]
  go_enter Tryz.func48, Tryz.ntmps48; go_wp2; go_ret; exact ⟨rfl, rfl⟩
theorem Block_any {w : World} (alg : Int) : Calls Tryz.prog 80 #[.int .i64 alg] w fun e w' => e = .returned (.int .i64 (blk alg)) ∧ w' = w := by
  have HBl : Hid (∀ w' : World, Calls Tryz.prog 82 #[.int .i64 alg] w' fun e w'' => e = .returned (.int .i64 (blk alg)) ∧ w' = w'') := fun w' => (ShaBlock_any alg).mono fun _ _ h => ⟨h.1, h.2.symm⟩
  go_enter Tryz.func80, Tryz.ntmps80
  go_wp2_with (go_at_call 82; refine (HBl.out _).mono ?_; rintro e w' ⟨rfl, rfl⟩)
  go_ret
  exact ⟨rfl, rfl⟩
theorem Size_any {w : World} (alg : Int) : Calls Tryz.prog 23 #[.int .i64 alg] w fun e w' => e = .returned (.int .i64 (siz alg)) ∧ w' = w := by
  have HBl : Hid (∀ w' : World, Calls Tryz.prog 48 #[.int .i64 alg] w' fun e w'' => e = .returned (.int .i64 (siz alg)) ∧ w' = w'') := fun w' => (ShaSize_any alg).mono fun _ _ h => ⟨h.1, h.2.symm⟩
  go_enter Tryz.func23, Tryz.ntmps23
  go_wp2_with (go_at_call 48; refine (HBl.out _).mono ?_; rintro e w' ⟨rfl, rfl⟩)
  go_ret
  exact ⟨rfl, rfl⟩
/-- What a Hash holds. -/
structure Hs where
  alg : Int
  total : Nat
  words : R8
  wide : R8
  rest : List Int
structure Hs.ok (h : Hs) : Prop where
  words : h.words.ok U32
  wide : h.wide.ok U64
  len : h.rest.length = 128
  bytes : U8s h.rest
def Hs.cells (h : Hs) : List Value := .int .i64 h.alg :: .int .i64 h.total :: (h.words.list.map (Value.int .u32) ++ (h.wide.list.map (Value.int .u64) ++ h.rest.map (Value.int .u8)))
def Hs.mixed (h : Hs) (bs : List Int) : Hs :=
  if h.alg = 1 then { h with words := mx1 h.words bs } else if h.alg = 2 then { h with words := mx256 h.words bs } else { h with wide := mx512 h.wide bs }
variable {HT : TypeId}
theorem Hs.cells_len {h : Hs} (hl : h.rest.length = 128) : h.cells.length = 146 := by simp [Hs.cells, R8.list, hl]
theorem Hs.mixed_ok {h : Hs} (hk : h.ok) (bs : List Int) : (h.mixed bs).ok := by
  unfold Hs.mixed
  split
  · exact ⟨mx1_ok hk.words bs, hk.wide, hk.len, hk.bytes⟩
  · split
    · exact ⟨mx256_ok bs, hk.wide, hk.len, hk.bytes⟩
    · exact ⟨hk.words, mx512_ok bs, hk.len, hk.bytes⟩
theorem Hs.range_words (h : Hs) : (h.cells.drop 2).take (h.words.list.map (Value.int .u32)).length = h.words.list.map (Value.int .u32) := by
  simp [Hs.cells, R8.list]
theorem Hs.range_wide (h : Hs) : (h.cells.drop 10).take (h.wide.list.map (Value.int .u64)).length = h.wide.list.map (Value.int .u64) := by
  simp [Hs.cells, R8.list]
theorem Hs.over_words (h : Hs) (r : R8) : over h.cells 2 (r.list.map (Value.int .u32)) = { h with words := r }.cells := by
  simp [over, Hs.cells, R8.list]
theorem Hs.over_wide (h : Hs) (r : R8) : over h.cells 10 (r.list.map (Value.int .u64)) = { h with wide := r }.cells := by
  simp [over, Hs.cells, R8.list]
end Go.Proofs.YtjmiaakfdclfjaaGreatDoor.Sh
/-
  Digest: the method mix.
-/
namespace Go.Proofs.YtjmiaakfdclfjaaGreatDoor.Sh
open Go.RowKit
set_option maxRecDepth 20000
variable {HT : TypeId}
theorem below_upd {w w' : World} {b : Nat} (h : Below w.heap.size w w') : Upd w w' b := ⟨h.1, h.2, h.3, h.size, fun k hk _ => h.block k hk⟩

set_option maxHeartbeats 1000000 in
theorem mixM_1 {w : World} (h : Hs) (hk : h.ok) (ha : h.alg = 1) (g : Nat) (hG : Blk HT w g h.cells) (hT : Tabs w) (c off len cap : Nat) (bs : List Int) (hc : c < w.heap.size) (hr : Rd .u8 w c off bs) (ub : U8s bs) (hlen : bs.length ≤ len) (hlc : len ≤ cap) (hbs : bs.length = 64) :
    Calls Tryz.prog 83 #[.pointer (some ⟨g, 0, none⟩), .slice (some ⟨c, off, none⟩) len cap] w fun e w' => e = .returned (.tuple #[]) ∧ Blk HT w' g { h with words := mx1 h.words bs }.cells ∧ Upd w w' g := by
  have hc0 : w.cell? ⟨g, 0, none⟩ = some (.int .i64 h.alg) := hG.cell 0
  rw [ha] at hc0
  have HG : Hid (w.rangeAt g 2 (h.words.list.map (Value.int .u32))) := hG.range 2 _ h.range_words
  have HB : Hid (∀ w1, Below w.heap.size w w1 → w1.there g 2 ((mx1 h.words bs).list.map (Value.int .u32)).toArray.size ∧ Blk HT (w1.setCells g 2 ((mx1 h.words bs).list.map (Value.int .u32))) g { h with words := mx1 h.words bs }.cells ∧ Upd w (w1.setCells g 2 ((mx1 h.words bs).list.map (Value.int .u32))) g) := fun w1 h1 => by
    have hb1 := below_blk h1 hG.lt hG
    have hl := Hs.cells_len hk.len
    refine ⟨hb1.there _ _ (by simp [hl, R8.list]), ?_, (below_upd h1).trans (Upd.setCells _ _ _)⟩
    rw [← h.over_words]
    exact hb1.setCells _ _ (by simp [hl, R8.list])
  have HS : Hid (∀ r : R8, (Tryz.prog.info? 69).map (·.size) = some (r.list.map (Value.int .u32)).length) := fun r => Tryz.size8w
  have HX := fun w' (hw : w' = w) => mix1_any (w := w') h.words hk.words c off len cap bs (by rw [hw]; exact hc) (by rw [hw]; exact hr) ub hlen hlc hbs (by rw [hw]; exact hT)
  have HX2 : Hid (∀ w', w' = w → Calls Tryz.prog _ _ w' _) := HX
  clear HX hr hT
  go_enter Tryz.func83, Tryz.ntmps83
  go_wp2_with (first
    | (refine wpList_load_mid rfl _ _ rfl g 2 rfl (h.words.list.map (Value.int .u32)) _ HG.out Tryz.underlying69 rfl (HS.out _) ?_)
    | (go_at_call 100; refine (HX2.out _ rfl).mono ?_; rintro e w1 ⟨rfl, hb1⟩; have HB1 := HB.out w1 hb1; have HB2 : Hid _ := HB1; clear HB1 hb1)
    | (refine wpList_store_mid rfl _ _ _ rfl g 2 ((mx1 h.words bs).list.map (Value.int .u32)).toArray rfl rfl HB2.out.1 (by simpa using HS.out (mx1 h.words bs)) (ints_one _ _) ?_))
  exact bodyPost_end (v := .tuple #[]) (results_none rfl _ _ _) rfl ⟨rfl, HB2.out.2.1, HB2.out.2.2⟩

set_option maxHeartbeats 1000000 in
theorem mixM_2 {w : World} (h : Hs) (hk : h.ok) (ha : h.alg = 2) (g : Nat) (hG : Blk HT w g h.cells) (hT : Tabs w) (c off len cap : Nat) (bs : List Int) (hc : c < w.heap.size) (hr : Rd .u8 w c off bs) (ub : U8s bs) (hlen : bs.length ≤ len) (hlc : len ≤ cap) (hbs : bs.length = 64) :
    Calls Tryz.prog 83 #[.pointer (some ⟨g, 0, none⟩), .slice (some ⟨c, off, none⟩) len cap] w fun e w' => e = .returned (.tuple #[]) ∧ Blk HT w' g { h with words := mx256 h.words bs }.cells ∧ Upd w w' g := by
  have hc0 : w.cell? ⟨g, 0, none⟩ = some (.int .i64 h.alg) := hG.cell 0
  rw [ha] at hc0
  have HG : Hid (w.rangeAt g 2 (h.words.list.map (Value.int .u32))) := hG.range 2 _ h.range_words
  have HB : Hid (∀ w1, Below w.heap.size w w1 → w1.there g 2 ((mx256 h.words bs).list.map (Value.int .u32)).toArray.size ∧ Blk HT (w1.setCells g 2 ((mx256 h.words bs).list.map (Value.int .u32))) g { h with words := mx256 h.words bs }.cells ∧ Upd w (w1.setCells g 2 ((mx256 h.words bs).list.map (Value.int .u32))) g) := fun w1 h1 => by
    have hb1 := below_blk h1 hG.lt hG
    have hl := Hs.cells_len hk.len
    refine ⟨hb1.there _ _ (by simp [hl, R8.list]), ?_, (below_upd h1).trans (Upd.setCells _ _ _)⟩
    rw [← h.over_words]
    exact hb1.setCells _ _ (by simp [hl, R8.list])
  have HS : Hid (∀ r : R8, (Tryz.prog.info? 69).map (·.size) = some (r.list.map (Value.int .u32)).length) := fun r => Tryz.size8w
  have HX := fun w' (hw : w' = w) => mix256_any (w := w') h.words hk.words c off len cap bs (by rw [hw]; exact hc) (by rw [hw]; exact hr) ub hlen hlc hbs (by rw [hw]; exact hT)
  have HX2 : Hid (∀ w', w' = w → Calls Tryz.prog _ _ w' _) := HX
  clear HX hr hT
  go_enter Tryz.func83, Tryz.ntmps83
  go_wp2_with (first
    | (refine wpList_load_mid rfl _ _ rfl g 2 rfl (h.words.list.map (Value.int .u32)) _ HG.out Tryz.underlying69 rfl (HS.out _) ?_)
    | (go_at_call 101; refine (HX2.out _ rfl).mono ?_; rintro e w1 ⟨rfl, hb1⟩; have HB1 := HB.out w1 hb1; have HB2 : Hid _ := HB1; clear HB1 hb1)
    | (refine wpList_store_mid rfl _ _ _ rfl g 2 ((mx256 h.words bs).list.map (Value.int .u32)).toArray rfl rfl HB2.out.1 (by simpa using HS.out (mx256 h.words bs)) (ints_one _ _) ?_))
  exact bodyPost_end (v := .tuple #[]) (results_none rfl _ _ _) rfl ⟨rfl, HB2.out.2.1, HB2.out.2.2⟩

set_option maxHeartbeats 1000000 in
theorem mixM_512 {w : World} (h : Hs) (hk : h.ok) (h1 : ¬ h.alg = 1) (h2 : ¬ h.alg = 2) (g : Nat) (hG : Blk HT w g h.cells) (hT : Tabs w) (c off len cap : Nat) (bs : List Int) (hc : c < w.heap.size) (hr : Rd .u8 w c off bs) (ub : U8s bs) (hlen : bs.length ≤ len) (hlc : len ≤ cap) (hbs : bs.length = 128) :
    Calls Tryz.prog 83 #[.pointer (some ⟨g, 0, none⟩), .slice (some ⟨c, off, none⟩) len cap] w fun e w' => e = .returned (.tuple #[]) ∧ Blk HT w' g { h with wide := mx512 h.wide bs }.cells ∧ Upd w w' g := by
  have hc0 : w.cell? ⟨g, 0, none⟩ = some (.int .i64 h.alg) := hG.cell 0
  skip
  have HG : Hid (w.rangeAt g 10 (h.wide.list.map (Value.int .u64))) := hG.range 10 _ h.range_wide
  have HB : Hid (∀ w1, Below w.heap.size w w1 → w1.there g 10 ((mx512 h.wide bs).list.map (Value.int .u64)).toArray.size ∧ Blk HT (w1.setCells g 10 ((mx512 h.wide bs).list.map (Value.int .u64))) g { h with wide := mx512 h.wide bs }.cells ∧ Upd w (w1.setCells g 10 ((mx512 h.wide bs).list.map (Value.int .u64))) g) := fun w1 h1 => by
    have hb1 := below_blk h1 hG.lt hG
    have hl := Hs.cells_len hk.len
    refine ⟨hb1.there _ _ (by simp [hl, R8.list]), ?_, (below_upd h1).trans (Upd.setCells _ _ _)⟩
    rw [← h.over_wide]
    exact hb1.setCells _ _ (by simp [hl, R8.list])
  have HS : Hid (∀ r : R8, (Tryz.prog.info? 44).map (·.size) = some (r.list.map (Value.int .u64)).length) := fun r => Tryz.eight512
  have HX := fun w' (hw : w' = w) => mix512_any (w := w') h.wide hk.wide c off len cap bs (by rw [hw]; exact hc) (by rw [hw]; exact hr) ub hlen hlc hbs (by rw [hw]; exact hT)
  have HX2 : Hid (∀ w', w' = w → Calls Tryz.prog _ _ w' _) := HX
  clear HX hr hT
  go_enter Tryz.func83, Tryz.ntmps83
  go_wp2_with (first
    | (refine wpList_load_mid rfl _ _ rfl g 10 rfl (h.wide.list.map (Value.int .u64)) _ HG.out Tryz.underlying44 rfl (HS.out _) ?_)
    | (go_at_call 102; refine (HX2.out _ rfl).mono ?_; rintro e w1 ⟨rfl, hb1⟩; have HB1 := HB.out w1 hb1; have HB2 : Hid _ := HB1; clear HB1 hb1)
    | (refine wpList_store_mid rfl _ _ _ rfl g 10 ((mx512 h.wide bs).list.map (Value.int .u64)).toArray rfl rfl HB2.out.1 (by simpa using HS.out (mx512 h.wide bs)) (ints_one _ _) ?_))
  exact bodyPost_end (v := .tuple #[]) (results_none rfl _ _ _) rfl ⟨rfl, HB2.out.2.1, HB2.out.2.2⟩

theorem mixM_any {w : World} (h : Hs) (hk : h.ok) (ha : Alg h.alg) (g : Nat) (hG : Blk HT w g h.cells) (hT : Tabs w) (c off len cap : Nat) (bs : List Int) (hc : c < w.heap.size) (hr : Rd .u8 w c off bs) (ub : U8s bs) (hlen : bs.length ≤ len) (hlc : len ≤ cap) (hbs : bs.length = blk h.alg) :
    Calls Tryz.prog 83 #[.pointer (some ⟨g, 0, none⟩), .slice (some ⟨c, off, none⟩) len cap] w fun e w' => e = .returned (.tuple #[]) ∧ Blk HT w' g (h.mixed bs).cells ∧ Upd w w' g := by
  unfold Hs.mixed
  by_cases h1 : h.alg = 1
  · rw [if_pos h1]; exact mixM_1 h hk h1 g hG hT c off len cap bs hc hr ub hlen hlc (by rw [hbs, h1]; rfl)
  · rw [if_neg h1]
    by_cases h2 : h.alg = 2
    · rw [if_pos h2]; exact mixM_2 h hk h2 g hG hT c off len cap bs hc hr ub hlen hlc (by rw [hbs, h2]; rfl)
    · rw [if_neg h2]
      refine mixM_512 h hk h1 h2 g hG hT c off len cap bs hc hr ub hlen hlc ?_
      rw [hbs]
      rcases ha with h | h | h | h
      · exact absurd h h1
      · exact absurd h h2
      · rw [h]; rfl
      · rw [h]; rfl
end Go.Proofs.YtjmiaakfdclfjaaGreatDoor.Sh
