/-
  Digest: the walk of words256's loop.
-/
import Derived.Test.YtgipmjpkaemdkaaDoorG2
import Derived.Test.YtgipmjpkaemdkaaDoorQs
import Derived.Test.YtgipmjpkaemdkaaDoorBlk
namespace Go.Proofs.YtgipmjpkaemdkaaDoor
open Go.RowKit

def w256 (bs W : List Int) (t : Nat) : Int :=
  if t < 16 then wd32 bs t else (mvd32 (W.getD (t - 2) 0) 17 19 10 + W.getD (t - 7) 0 + mvd32 (W.getD (t - 15) 0) 7 18 3 + W.getD (t - 16) 0) % 4294967296
def sch256 (bs : List Int) : Nat → List Int
  | 0 => []
  | t + 1 => sch256 bs t ++ [w256 bs (sch256 bs t) t]
theorem sch256_len (bs : List Int) (t : Nat) : (sch256 bs t).length = t := by
  induction t with
  | zero => rfl
  | succ t ih => simp [sch256, ih]
theorem u32_mod (x : Int) : U32 (x % 4294967296) := ⟨Int.emod_nonneg _ (by decide), Int.emod_lt_of_pos _ (by decide)⟩
theorem Tryd.size64w : (Tryd.prog.info? 66).map (·.size) = some 64 := by kernel_rfl
theorem sch256_u32 {bs : List Int} (h : U8s bs) (t : Nat) : U32s (sch256 bs t) := by
  induction t with
  | zero => exact U32s.nil
  | succ t ih =>
    refine ih.append (U32s.cons ?_ U32s.nil)
    unfold w256; split
    · exact wd32_u32 h t
    · exact u32_mod _

theorem moved32_I (x i j k : Int) (w : World) (hx : U32 x) (hi : 1 ≤ i ∧ i ≤ 31) (hj : 1 ≤ j ∧ j ≤ 31) (hk : 0 ≤ k ∧ k ≤ 31) :
    Calls Tryd.prog 58 #[.int .u32 x, .int .i64 i, .int .i64 j, .int .i64 k] w fun e w' => e = .returned (.int .u32 (mvd32 x i.toNat j.toNat k.toNat)) ∧ ∃ q, w' = w.drewN q := by
  obtain ⟨i, rfl⟩ := Int.eq_ofNat_of_zero_le (show 0 ≤ i by omega)
  obtain ⟨j, rfl⟩ := Int.eq_ofNat_of_zero_le (show 0 ≤ j by omega)
  obtain ⟨k, rfl⟩ := Int.eq_ofNat_of_zero_le hk.1
  simp only [Int.toNat_natCast]
  exact moved32_any x hx i j k (by omega) (by omega) (by omega)
set_option maxHeartbeats 500000 in
theorem words256_any {w : World} (b off len c : Nat) (bs : List Int) (hb : b < w.heap.size) (hr : Rd .u8 w b off bs) (ub : U8s bs) (hlen : bs.length ≤ len) (hlc : len ≤ c) (hbs : bs.length = 64) :
    Calls Tryd.prog 53 #[.slice (some ⟨b, off, none⟩) len c] w fun e w' => e = .returned (.agg ((sch256 bs 64).map (Value.int .u32)).toArray) ∧ Below w.heap.size w w' := by
  go_enter Tryd.func53, Tryd.ntmps53
  go_wp2
  go_loopw [5] (fun iv wr => ∃ t : Nat, iv = .int .i64 t ∧ t ≤ 64 ∧ Arr .u32 66 wr (w.heap.size + 1) (sch256 bs t ++ List.replicate (64 - t) 0) ∧ Arr .u32 66 wr w.heap.size (List.replicate 64 0) ∧ Below w.heap.size w wr) (fun iv _ => 64 - (intOf iv).toNat)
  case atStart =>
    refine ⟨0, rfl, by omega, ?_, ?_, ((Below.refl _ _).alloc (Nat.le_refl _) _).alloc (by simp) _⟩
    · unfold Arr; rw [show w.heap.size + 1 = (w.alloc _).heap.size by simp, heap_alloc_new]; rfl
    · unfold Arr; rw [Below.heap_alloc _ _ _ (by simp), heap_alloc_new]; rfl
  case round =>
    obtain ⟨t, rfl, ht, hA, hZ, hBt⟩ := hrel
    by_cases hlt : t < 64
    · have hl : (sch256 bs t ++ List.replicate (64 - t) 0).length = 64 := by simp [sch256_len]; omega
      have hset : ∀ x, x = w256 bs (sch256 bs t) t → (sch256 bs t ++ List.replicate (64 - t) 0).set t x = sch256 bs (t + 1) ++ List.replicate (64 - (t + 1)) 0 := fun x hx => by
        have h1 := sch256_len bs t
        rw [List.set_append_right _ _ (by omega), h1, Nat.sub_self, show 64 - t = (64 - (t + 1)) + 1 by omega, List.replicate_succ, List.set_cons_zero, hx]
        simp [sch256]
      have hco := hA.cell t (by omega)
      obtain ⟨o, ho⟩ : ∃ o, (sch256 bs t ++ List.replicate (64 - t) 0).getD t 0 = o := ⟨_, rfl⟩
      rw [ho] at hco
      have hfo := hA.frozen t
      have HH : Hid (Arr .u32 66 wr (w.heap.size + 1) (sch256 bs t ++ List.replicate (64 - t) 0) ∧ Arr .u32 66 wr w.heap.size (List.replicate 64 0) ∧ Below w.heap.size w wr ∧ ∀ x, x = w256 bs (sch256 bs t) t → (sch256 bs t ++ List.replicate (64 - t) 0).set t x = sch256 bs (t + 1) ++ List.replicate (64 - (t + 1)) 0) := ⟨hA, hZ, hBt, hset⟩
      by_cases h16 : t < 16
      · have hw := fun w' (h' : Below w.heap.size w w') => word32_any (w := w') b off len c bs (below_rd h' hb hr) ub t hlen hlc (by omega) (by omega)
        have hwr := hw wr hBt
        have HV : Hid (wd32 bs t = w256 bs (sch256 bs t) t) := by unfold w256; rw [if_pos h16]; rfl
        clear hA hZ hBt hset ho hl hw
        go_wp2_with (go_at_call 57; refine hwr.mono ?_; rintro e w' ⟨rfl, q, rfl⟩)
        go_roundw
        case rel =>
          obtain ⟨hA, hZ, hBt, hset⟩ := HH.out
          refine ⟨t + 1, by go_num, by omega, ?_, ?_, ?_⟩
          · have h1 : Arr .u32 66 (wr.drewN q) (w.heap.size + 1) _ := hA
            have := h1.set t (wd32 bs t); rw [hset _ HV.out] at this; exact this
          · have h1 : Arr .u32 66 (wr.drewN q) w.heap.size _ := hZ
            exact (Upd.set _ (w.heap.size + 1) t _).arr h1 (by omega)
          · exact Below.setCell (w := wr.drewN q) (p := ⟨w.heap.size + 1, t, none⟩) (hBt.trans ⟨rfl, rfl, rfl, Nat.le_refl _, fun _ _ => rfl⟩) (show w.heap.size ≤ w.heap.size + 1 by omega) _
        case measure => simp [intOf]; omega
      · have hget : ∀ j, j < t → (sch256 bs t ++ List.replicate (64 - t) 0).getD j 0 = (sch256 bs t).getD j 0 := fun j hj => by
          rw [List.getD_eq_getElem?_getD, List.getElem?_append_left (by rw [sch256_len]; exact hj), ← List.getD_eq_getElem?_getD]
        obtain ⟨x2, e2⟩ : ∃ x, (sch256 bs t).getD (t - 2) 0 = x := ⟨_, rfl⟩
        obtain ⟨x7, e7⟩ : ∃ x, (sch256 bs t).getD (t - 7) 0 = x := ⟨_, rfl⟩
        obtain ⟨x15, e15⟩ : ∃ x, (sch256 bs t).getD (t - 15) 0 = x := ⟨_, rfl⟩
        obtain ⟨x16, e16⟩ : ∃ x, (sch256 bs t).getD (t - 16) 0 = x := ⟨_, rfl⟩
        have u2 : Hid (U32 x2) := e2 ▸ (sch256_u32 ub _).at _
        have u15 : Hid (U32 x15) := e15 ▸ (sch256_u32 ub _).at _
        have c2 : wr.cell? ⟨w.heap.size + 1, t - 2, none⟩ = some (.int .u32 x2) := by rw [hA.cell (t - 2) (by omega), hget _ (by omega), e2]
        have c7 : wr.cell? ⟨w.heap.size + 1, t - 7, none⟩ = some (.int .u32 x7) := by rw [hA.cell (t - 7) (by omega), hget _ (by omega), e7]
        have c15 : wr.cell? ⟨w.heap.size + 1, t - 15, none⟩ = some (.int .u32 x15) := by rw [hA.cell (t - 15) (by omega), hget _ (by omega), e15]
        have c16 : wr.cell? ⟨w.heap.size + 1, t - 16, none⟩ = some (.int .u32 x16) := by rw [hA.cell (t - 16) (by omega), hget _ (by omega), e16]
        have HV : Hid ((mvd32 x2 17 19 10 + x7 + mvd32 x15 7 18 3 + x16) % 4294967296 = w256 bs (sch256 bs t) t) := by
          unfold w256; rw [if_neg h16, e2, e7, e15, e16]; rfl
        clear hA hZ hBt hset ho hl e2 e7 e15 e16 hget
        go_upto_region 7 with (fail)
        refine wp_region_qsd 23 (by kernel_rfl) (by kernel_rfl) ?_
        simp only [List.take_succ_cons, List.take_zero, List.drop_succ_cons, List.drop_zero]
        repeat (go_big_quiet_step ((go_at_call 58; exact Calls.quiet_of (moved32_I _ _ _ _ _ (by first | exact u2.out | exact u15.out) (by omega) (by omega) (by omega)))))
        refine wpQuiet_nil ?_
        rintro _ ⟨q, rfl⟩
        go_wp2
        go_roundw
        case rel =>
          obtain ⟨hA, hZ, hBt, hset⟩ := HH.out
          refine ⟨t + 1, by go_num, by omega, ?_, ?_, ?_⟩
          · have h1 : Arr .u32 66 (wr.drewN q) (w.heap.size + 1) _ := hA
            have := h1.set t (w256 bs (sch256 bs t) t); rw [hset _ rfl, ← HV.out] at this; exact this
          · have h1 : Arr .u32 66 (wr.drewN q) w.heap.size _ := hZ
            exact (Upd.set _ (w.heap.size + 1) t _).arr h1 (by omega)
          · exact Below.setCell (w := wr.drewN q) (p := ⟨w.heap.size + 1, t, none⟩) (hBt.trans ⟨rfl, rfl, rfl, Nat.le_refl _, fun _ _ => rfl⟩) (show w.heap.size ≤ w.heap.size + 1 by omega) _
        case measure => simp [intOf]; omega
    · obtain rfl : t = 64 := by omega
      have hA' : Blk 66 wr (w.heap.size + 1) ((sch256 bs 64).map (Value.int .u32)) := by simpa using hA.blk
      have hlen : ((sch256 bs 64).map (Value.int .u32)).length = 64 := by simp [sch256_len]
      have hsz : (Tryd.prog.info? 66).map (·.size) = some ((sch256 bs 64).map (Value.int .u32)).length := by rw [hlen]; exact Tryd.size64w
      have hone := ints_one .u32 (sch256 bs 64)
      have hZl : (List.replicate 64 (0 : Int)).length = 64 := by simp
      obtain ⟨cs, hcs⟩ : ∃ cs, (sch256 bs 64).map (Value.int .u32) = cs := ⟨_, rfl⟩
      rw [hcs] at hA' hlen hsz hone
      have HC : Hid ((sch256 bs 64).map (Value.int .u32) = cs) := hcs
      clear hcs
      have hZb := hZ.blk
      have HF : Hid (Blk 66 (wr.setCells w.heap.size 0 cs) w.heap.size cs ∧ Below w.heap.size w (wr.setCells w.heap.size 0 cs)) := ⟨hZb.fill cs (by simp [hlen]), (Upd.setCells cs 0 wr).below hBt hBt.size (Nat.le_refl _)⟩
      have hth : wr.there w.heap.size 0 cs.toArray.size := hZb.there 0 _ (by simp [hlen])
      have hrg := hA'.whole
      have HA : Hid (wr.rangeAt (w.heap.size + 1) 0 cs ∧ wr.there w.heap.size 0 cs.toArray.size) := ⟨hrg, hth⟩
      have HS : Hid ((Tryd.prog.info? 66).map (·.size) = some cs.length) := hsz
      have HO : Hid (cs.toArray.all (·.oneCell') = true) := hone
      clear hA hZ hBt hA' hlen hsz hone hZl hZb hth hrg
      go_wp2_with (first
        | (refine wpList_load_mid rfl _ _ rfl (w.heap.size + 1) 0 rfl cs _ HA.out.1 Tryd.underlying66 rfl HS.out ?_)
        | (refine wpList_store_mid rfl _ _ _ rfl w.heap.size 0 cs.toArray rfl rfl HA.out.2 (by simpa using HS.out) HO.out ?_))
      refine bodyPost_ret (v := .agg cs.toArray) (results_blk (b := w.heap.size) (cs := cs) rfl rfl HF.out.1 Tryd.underlying66 rfl HS.out) rfl ⟨by rw [HC.out], HF.out.2⟩
end Go.Proofs.YtgipmjpkaemdkaaDoor
