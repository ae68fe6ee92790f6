/-
  Digest: the walk of mix1.
-/
import Derived.Test.YtgipmjpkaemdkaaDoorG6
namespace Go.Proofs.YtgipmjpkaemdkaaDoor
open Go.RowKit
theorem Tryd.size1w : (Tryd.prog.info? 48).map (·.size) = some 1 := by kernel_rfl
theorem Tryd.size8w : (Tryd.prog.info? 49).map (·.size) = some 8 := by kernel_rfl
set_option maxHeartbeats 1000000 in
theorem mix1_any {w : World} (s : R8) (hs : s.ok U32) (b off len c : Nat) (bs : List Int) (hb : b < w.heap.size) (hr : Rd .u8 w b off bs) (ub : U8s bs) (hlen : bs.length ≤ len) (hlc : len ≤ c) (hbs : bs.length = 64) (hT : Tabs w) :
    Calls Tryd.prog 47 #[.agg (s.list.map (Value.int .u32)).toArray, .slice (some ⟨b, off, none⟩) len c] w fun e w' => e = .returned (.agg ((mx1 s bs).list.map (Value.int .u32)).toArray) ∧ Below w.heap.size w w' := by
  obtain ⟨s0, s1, s2, s3, s4, s5, s6, s7⟩ := s
  have HM : Hid (∀ r, rnd1 (sch1 bs 80) ⟨s0, s1, s2, s3, s4⟩ 80 = r → (mx1 ⟨s0, s1, s2, s3, s4, s5, s6, s7⟩ bs).list = [(s0 + r.a) % 4294967296, (s1 + r.b) % 4294967296, (s2 + r.c) % 4294967296, (s3 + r.d) % 4294967296, (s4 + r.e) % 4294967296, s5, s6, s7]) := fun r h => by subst h; rfl
  have HK : Hid (∀ t, (rnd1 (sch1 bs 80) ⟨s0, s1, s2, s3, s4⟩ t).ok) := fun t => rnd1_ok ⟨hs.1, hs.2.1, hs.2.2.1, hs.2.2.2.1, hs.2.2.2.2.1⟩ t
  have HT : Hid (Tabs w) := hT
  have HS : Hid (R8.ok U32 ⟨s0, s1, s2, s3, s4, s5, s6, s7⟩) := hs
  have hz7 := hT.size
  clear hT hs
  show Calls Tryd.prog _ #[.agg #[.int .u32 s0, .int .u32 s1, .int .u32 s2, .int .u32 s3, .int .u32 s4, .int .u32 s5, .int .u32 s6, .int .u32 s7], _] w _
  go_enter Tryd.func47, Tryd.ntmps47
  go_wp2
  go_quiet (fail)
  have hW0 : ∀ o1 o2 : Obj, Below w.heap.size w (((w.alloc o1).alloc o2).drewN nq) := fun o1 o2 => below_drewN _ (((Below.refl _ _).alloc (Nat.le_refl _) _).alloc (by simp) _)
  go_wp2_with (go_at_call 50; refine (words1_any b off len c bs (by simp; omega) (by exact below_rd (hW0 _ _) hb hr) ub hlen hlc hbs).mono ?_; rintro e w1 ⟨rfl, hb1⟩)
  have hB0 : Below w.heap.size w w1 := (hW0 _ _).trans (hb1.mono (by simp; omega))
  have hS1 : Blk 49 w1 w.heap.size [.int .u32 s0, .int .u32 s1, .int .u32 s2, .int .u32 s3, .int .u32 s4, .int .u32 s5, .int .u32 s6, .int .u32 s7] := below_blk hb1 (by simp; omega) ((Blk.new _ w _).alloc _)
  have hZ1 : Blk 49 w1 (w.heap.size + 1) [.int .u32 0, .int .u32 0, .int .u32 0, .int .u32 0, .int .u32 0, .int .u32 0, .int .u32 0, .int .u32 0] := below_blk hb1 (by simp) (by have := Blk.new 49 (w.alloc (.cells #[.int .u32 s0, .int .u32 s1, .int .u32 s2, .int .u32 s3, .int .u32 s4, .int .u32 s5, .int .u32 s6, .int .u32 s7] 49)) [.int .u32 0, .int .u32 0, .int .u32 0, .int .u32 0, .int .u32 0, .int .u32 0, .int .u32 0, .int .u32 0]; exact (by simpa using this : Blk 49 _ (w.heap.size + 1) _).drewN nq)
  have HH : Hid (Below w.heap.size w w1 ∧ Blk 49 w1 w.heap.size [.int .u32 s0, .int .u32 s1, .int .u32 s2, .int .u32 s3, .int .u32 s4, .int .u32 s5, .int .u32 s6, .int .u32 s7] ∧ Blk 49 w1 (w.heap.size + 1) [.int .u32 0, .int .u32 0, .int .u32 0, .int .u32 0, .int .u32 0, .int .u32 0, .int .u32 0, .int .u32 0] ∧ Tabs w1) := ⟨hB0, hS1, hZ1, HT.out.below hB0⟩
  clear hb1 hB0 hS1 hZ1 hW0
  have hWl := sch1_len bs 80
  have HWu : Hid (U32s (sch1 bs 80)) := sch1_u32 ub 80
  obtain ⟨W, hW⟩ : ∃ W, sch1 bs 80 = W := ⟨_, rfl⟩
  rw [hW] at HM HK hWl HWu
  simp only [hW]
  clear hW
  go_loopw [5, 6, 7, 8, 9, 25] (fun va vb vc vd ve iv wr => ∃ (t q : Nat), iv = .int .i64 t ∧ t ≤ 80 ∧ va = .int .u32 (rnd1 W ⟨s0, s1, s2, s3, s4⟩ t).a ∧ vb = .int .u32 (rnd1 W ⟨s0, s1, s2, s3, s4⟩ t).b ∧ vc = .int .u32 (rnd1 W ⟨s0, s1, s2, s3, s4⟩ t).c ∧ vd = .int .u32 (rnd1 W ⟨s0, s1, s2, s3, s4⟩ t).d ∧ ve = .int .u32 (rnd1 W ⟨s0, s1, s2, s3, s4⟩ t).e ∧ wr = w1.drewN q) (fun _ _ _ _ _ iv _ => 80 - (intOf iv).toNat)
  case atStart => exact ⟨0, 0, rfl, by omega, rfl, rfl, rfl, rfl, rfl, rfl⟩
  case round =>
    obtain ⟨t, q, rfl, ht, rfl, rfl, rfl, rfl, rfl, hwr⟩ := hrel
    have HW : Hid (wr = w1.drewN q) := hwr
    clear hwr
    obtain ⟨r, hrr⟩ : ∃ r, rnd1 W ⟨s0, s1, s2, s3, s4⟩ t = r := ⟨_, rfl⟩
    have hok := HK.out t
    have HR : Hid (rnd1 W ⟨s0, s1, s2, s3, s4⟩ t = r) := hrr
    rw [hrr] at hok
    simp only [hrr]
    clear hrr
    obtain ⟨a, b, c, d, e⟩ := r
    obtain ⟨ua, ub, uc, ud, ue⟩ := hok
    by_cases hlt : t < 80
    · obtain ⟨y, hy⟩ : ∃ y : Nat, t / 20 = y := ⟨_, rfl⟩
      have hy' : ((t : Int) / 20) = y := by omega
      have hy3 : y < 4 := by omega
      have hk : wr.cell? ⟨4, y, none⟩ = some (.int .u32 (adds1L.getD y 0)) := by
        rw [HW.out]
        have := HH.out.2.2.2.a1 y (by simp [adds1L]; omega); simpa using this
      have hx : ∀ w' : World, Sem.run Tryd.prog (Instr.index 63 (.agg (W.map (Value.int .u32)).toArray) (.int .i64 t)) w' = .ok (.int .u32 (W.getD t 0)) w' := fun w' => run_index_row w' _ _ 80 .u32 W t Tryd.underlying63 Tryd.underlying48 Tryd.size1w hWl hlt
      obtain ⟨k, hk0⟩ : ∃ k, adds1L.getD y 0 = k := ⟨_, rfl⟩
      obtain ⟨x, hx0⟩ : ∃ x, W.getD t 0 = x := ⟨_, rfl⟩
      rw [hk0] at hk; rw [hx0] at hx
      have HV : Hid (rnd1 W ⟨s0, s1, s2, s3, s4⟩ (t + 1) = ⟨(rot32 a (sh32 5) + ch1 y b c d + e + k + x) % 4294967296, a, rot32 b (sh32 30), c, d⟩) := by
        show stp1 W t _ = _
        rw [HR.out]; unfold stp1; rw [hy, hk0, hx0]; rfl
      have HC : Hid (∀ w' : World, Calls Tryd.prog 52 #[.int .i64 t, .int .u32 b, .int .u32 c, .int .u32 d] w' fun e w'' => e = .returned (.int .u32 (ch1 y b c d)) ∧ w'' = w') := fun w' => by have := choose1_any (w := w') t b c d hlt ub uc ud; rw [hy] at this; exact this
      have HU : Hid (U32 a ∧ U32 b) := ⟨ua, ub⟩
      clear hk0 hx0 hy ua ub uc ud ue
      have ht0 : (t : Int) < 80 := by omega
      go_upto_region 5 with (fail)
      go_quiet (first
        | (go_at_call 51; exact Calls.quiet_of_same (rot32_any _ _ HU.out.1))
        | (go_at_call 52; exact Calls.quiet_of_same (HC.out _)))
      go_wp2_with (go_at_call 51; refine (rot32_any _ _ HU.out.2).mono ?_; rintro e' w' ⟨rfl, rfl⟩)
      go_roundw
      case rel =>
        refine ⟨t + 1, q + nq, by go_num, by omega, ?_⟩
        rw [HV.out]
        exact ⟨rfl, rfl, rfl, rfl, rfl, by rw [HW.out, World.drewN_drewN]⟩
      case measure => simp [intOf]; omega
    · obtain rfl : t = 80 := by omega
      have hM := HM.out _ HR.out
      obtain ⟨hB, hS, hZ, _⟩ := HH.out
      have hBr : Below w.heap.size w wr := by rw [HW.out]; exact below_drewN q hB
      have hSr : Blk 49 wr w.heap.size [.int .u32 s0, .int .u32 s1, .int .u32 s2, .int .u32 s3, .int .u32 s4, .int .u32 s5, .int .u32 s6, .int .u32 s7] := by rw [HW.out]; exact hS
      have hZr : Blk 49 wr (w.heap.size + 1) [.int .u32 0, .int .u32 0, .int .u32 0, .int .u32 0, .int .u32 0, .int .u32 0, .int .u32 0, .int .u32 0] := by rw [HW.out]; exact hZ
      have c0 : wr.cell? ⟨w.heap.size, 0, none⟩ = some (.int .u32 s0) := hSr.cell 0
      have c1 : wr.cell? ⟨w.heap.size, 1, none⟩ = some (.int .u32 s1) := hSr.cell 1
      have c2 : wr.cell? ⟨w.heap.size, 2, none⟩ = some (.int .u32 s2) := hSr.cell 2
      have c3 : wr.cell? ⟨w.heap.size, 3, none⟩ = some (.int .u32 s3) := hSr.cell 3
      have c4 : wr.cell? ⟨w.heap.size, 4, none⟩ = some (.int .u32 s4) := hSr.cell 4
      have f0 : wr.frozen? ⟨w.heap.size, 0, none⟩ = false := hSr.frozen 0
      have f1 : wr.frozen? ⟨w.heap.size, 1, none⟩ = false := hSr.frozen 1
      have f2 : wr.frozen? ⟨w.heap.size, 2, none⟩ = false := hSr.frozen 2
      have f3 : wr.frozen? ⟨w.heap.size, 3, none⟩ = false := hSr.frozen 3
      have f4 : wr.frozen? ⟨w.heap.size, 4, none⟩ = false := hSr.frozen 4
      have HN : Hid (∀ v0 v1 v2 v3 v4 : Value, Blk 49 (((((wr.setCell ⟨w.heap.size, 0, none⟩ v0).setCell ⟨w.heap.size, 1, none⟩ v1).setCell ⟨w.heap.size, 2, none⟩ v2).setCell ⟨w.heap.size, 3, none⟩ v3).setCell ⟨w.heap.size, 4, none⟩ v4) w.heap.size [v0, v1, v2, v3, v4, .int .u32 s5, .int .u32 s6, .int .u32 s7] ∧ Blk 49 (((((wr.setCell ⟨w.heap.size, 0, none⟩ v0).setCell ⟨w.heap.size, 1, none⟩ v1).setCell ⟨w.heap.size, 2, none⟩ v2).setCell ⟨w.heap.size, 3, none⟩ v3).setCell ⟨w.heap.size, 4, none⟩ v4) (w.heap.size + 1) [.int .u32 0, .int .u32 0, .int .u32 0, .int .u32 0, .int .u32 0, .int .u32 0, .int .u32 0, .int .u32 0] ∧ Below w.heap.size w (((((wr.setCell ⟨w.heap.size, 0, none⟩ v0).setCell ⟨w.heap.size, 1, none⟩ v1).setCell ⟨w.heap.size, 2, none⟩ v2).setCell ⟨w.heap.size, 3, none⟩ v3).setCell ⟨w.heap.size, 4, none⟩ v4)) := fun v0 v1 v2 v3 v4 => by
        have hu : Upd wr (((((wr.setCell ⟨w.heap.size, 0, none⟩ v0).setCell ⟨w.heap.size, 1, none⟩ v1).setCell ⟨w.heap.size, 2, none⟩ v2).setCell ⟨w.heap.size, 3, none⟩ v3).setCell ⟨w.heap.size, 4, none⟩ v4) w.heap.size := ((((Upd.set wr w.heap.size 0 v0).trans (Upd.set _ w.heap.size 1 v1)).trans (Upd.set _ w.heap.size 2 v2)).trans (Upd.set _ w.heap.size 3 v3)).trans (Upd.set _ w.heap.size 4 v4)
        exact ⟨((((hSr.set 0 v0).set 1 v1).set 2 v2).set 3 v3).set 4 v4, hu.blk hZr (by omega), hu.below hBr hBr.size (Nat.le_refl _)⟩
      have HMM : Hid ((mx1 ⟨s0, s1, s2, s3, s4, s5, s6, s7⟩ bs).list = [(s0 + a) % 4294967296, (s1 + b) % 4294967296, (s2 + c) % 4294967296, (s3 + d) % 4294967296, (s4 + e) % 4294967296, s5, s6, s7]) := hM
      clear hM hB hS hZ hBr hSr hZr ua ub uc ud ue
      go_upto_region 13 with (fail)
      obtain ⟨hS', hZ', hB'⟩ := HN.out (.int .u32 ((s0 + a) % 4294967296)) (.int .u32 ((s1 + b) % 4294967296)) (.int .u32 ((s2 + c) % 4294967296)) (.int .u32 ((s3 + d) % 4294967296)) (.int .u32 ((s4 + e) % 4294967296))
      obtain ⟨cs, hcs⟩ : ∃ cs, ([(s0 + a) % 4294967296, (s1 + b) % 4294967296, (s2 + c) % 4294967296, (s3 + d) % 4294967296, (s4 + e) % 4294967296, s5, s6, s7] : List Int).map (Value.int .u32) = cs := ⟨_, rfl⟩
      have hlen : cs.length = 8 := by rw [← hcs]; rfl
      have HO : Hid (cs.toArray.all (·.oneCell') = true) := by rw [← hcs]; exact ints_one _ _
      have HC : Hid ((mx1 ⟨s0, s1, s2, s3, s4, s5, s6, s7⟩ bs).list.map (Value.int .u32) = cs) := by rw [HMM.out]; exact hcs
      have hcs2 : [Value.int .u32 ((s0 + a) % 4294967296), .int .u32 ((s1 + b) % 4294967296), .int .u32 ((s2 + c) % 4294967296), .int .u32 ((s3 + d) % 4294967296), .int .u32 ((s4 + e) % 4294967296), .int .u32 s5, .int .u32 s6, .int .u32 s7] = cs := hcs
      rw [hcs2] at hS'
      clear hcs hcs2
      revert hS' hZ' hB'
      generalize World.setCell _ _ _ = wf
      intro hZ' hB' hS2
      have HF : Hid (Blk 49 (wf.setCells (w.heap.size + 1) 0 cs) (w.heap.size + 1) cs ∧ Below w.heap.size w (wf.setCells (w.heap.size + 1) 0 cs)) := ⟨hZ'.fill cs (by rw [hlen]; rfl), (Upd.setCells cs 0 wf).below hB' hB'.size (by omega)⟩
      have HS2 : Hid (wf.rangeAt w.heap.size 0 cs ∧ wf.there (w.heap.size + 1) 0 cs.toArray.size) := ⟨hS2.whole, hZ'.there 0 _ (by simp [hlen])⟩
      have HSz : Hid ((Tryd.prog.info? 49).map (·.size) = some cs.length) := by rw [hlen]; exact Tryd.size8w
      clear hS2 hZ' hB' hlen c0 c1 c2 c3 c4 f0 f1 f2 f3 f4
      go_wp2_with (first
        | (refine wpList_load_mid rfl _ _ rfl w.heap.size 0 rfl cs _ HS2.out.1 Tryd.underlying49 rfl HSz.out ?_)
        | (refine wpList_store_mid rfl _ _ _ rfl (w.heap.size + 1) 0 cs.toArray rfl rfl HS2.out.2 (by simpa using HSz.out) HO.out ?_))
      refine bodyPost_ret (v := .agg cs.toArray) (results_blk (b := w.heap.size + 1) (cs := cs) rfl rfl HF.out.1 Tryd.underlying49 rfl HSz.out) rfl ⟨by rw [HC.out], HF.out.2⟩
end Go.Proofs.YtgipmjpkaemdkaaDoor
