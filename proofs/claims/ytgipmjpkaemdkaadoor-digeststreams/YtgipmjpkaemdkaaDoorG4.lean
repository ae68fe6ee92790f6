/-
  Digest: the walk of words1.
-/
import Derived.Test.YtgipmjpkaemdkaaDoorG3
namespace Go.Proofs.YtgipmjpkaemdkaaDoor
open Go.RowKit

def w1 (bs W : List Int) (t : Nat) : Int :=
  if t < 16 then wd32 bs t else rot32 (bits .xor .u32 (bits .xor .u32 (bits .xor .u32 (W.getD (t - 3) 0) (W.getD (t - 8) 0)) (W.getD (t - 14) 0)) (W.getD (t - 16) 0)) 1
def sch1 (bs : List Int) : Nat → List Int
  | 0 => []
  | t + 1 => sch1 bs t ++ [w1 bs (sch1 bs t) t]
theorem sch1_len (bs : List Int) (t : Nat) : (sch1 bs t).length = t := by
  induction t with
  | zero => rfl
  | succ t ih => simp [sch1, ih]
theorem Tryd.size80w : (Tryd.prog.info? 63).map (·.size) = some 80 := by kernel_rfl
theorem bits_u32 (op : BinOp) (x y : Int) : U32 (bits op .u32 x y) := by
  unfold bits; simp only []; rw [IntKind.wrap_u32']; exact ⟨Int.emod_nonneg _ (by decide), Int.emod_lt_of_pos _ (by decide)⟩
theorem sch1_u32 {bs : List Int} (h : U8s bs) (t : Nat) : U32s (sch1 bs t) := by
  induction t with
  | zero => exact U32s.nil
  | succ t ih =>
    refine ih.append (U32s.cons ?_ U32s.nil)
    unfold w1; split
    · exact wd32_u32 h t
    · exact bits_u32 _ _ _

set_option maxHeartbeats 500000 in
theorem words1_any {w : World} (b off len c : Nat) (bs : List Int) (hb : b < w.heap.size) (hr : Rd .u8 w b off bs) (ub : U8s bs) (hlen : bs.length ≤ len) (hlc : len ≤ c) (hbs : bs.length = 64) :
    Calls Tryd.prog 50 #[.slice (some ⟨b, off, none⟩) len c] w fun e w' => e = .returned (.agg ((sch1 bs 80).map (Value.int .u32)).toArray) ∧ Below w.heap.size w w' := by
  go_enter Tryd.func50, Tryd.ntmps50
  go_wp2
  go_loopw [5] (fun iv wr => ∃ t : Nat, iv = .int .i64 t ∧ t ≤ 80 ∧ Arr .u32 63 wr (w.heap.size + 1) (sch1 bs t ++ List.replicate (80 - t) 0) ∧ Arr .u32 63 wr w.heap.size (List.replicate 80 0) ∧ Below w.heap.size w wr) (fun iv _ => 80 - (intOf iv).toNat)
  case atStart =>
    refine ⟨0, rfl, by omega, ?_, ?_, ((Below.refl _ _).alloc (Nat.le_refl _) _).alloc (by simp) _⟩
    · unfold Arr; rw [show w.heap.size + 1 = (w.alloc _).heap.size by simp, heap_alloc_new]; rfl
    · unfold Arr; rw [Below.heap_alloc _ _ _ (by simp), heap_alloc_new]; rfl
  case round =>
    obtain ⟨t, rfl, ht, hA, hZ, hBt⟩ := hrel
    by_cases hlt : t < 80
    · have hl : (sch1 bs t ++ List.replicate (80 - t) 0).length = 80 := by simp [sch1_len]; omega
      have hset : ∀ x, x = w1 bs (sch1 bs t) t → (sch1 bs t ++ List.replicate (80 - t) 0).set t x = sch1 bs (t + 1) ++ List.replicate (80 - (t + 1)) 0 := fun x hx => by
        have h1 := sch1_len bs t
        rw [List.set_append_right _ _ (by omega), h1, Nat.sub_self, show 80 - t = (80 - (t + 1)) + 1 by omega, List.replicate_succ, List.set_cons_zero, hx]
        simp [sch1]
      have hco := hA.cell t (by omega)
      obtain ⟨o, ho⟩ : ∃ o, (sch1 bs t ++ List.replicate (80 - t) 0).getD t 0 = o := ⟨_, rfl⟩
      rw [ho] at hco
      have hfo := hA.frozen t
      have HH : Hid (Arr .u32 63 wr (w.heap.size + 1) (sch1 bs t ++ List.replicate (80 - t) 0) ∧ Arr .u32 63 wr w.heap.size (List.replicate 80 0) ∧ Below w.heap.size w wr ∧ ∀ x, x = w1 bs (sch1 bs t) t → (sch1 bs t ++ List.replicate (80 - t) 0).set t x = sch1 bs (t + 1) ++ List.replicate (80 - (t + 1)) 0) := ⟨hA, hZ, hBt, hset⟩
      by_cases h16 : t < 16
      · have hw := fun w' (h' : Below w.heap.size w w') => word32_any (w := w') b off len c bs (below_rd h' hb hr) ub t hlen hlc (by omega) (by omega)
        have hwr := hw wr hBt
        have HV : Hid (wd32 bs t = w1 bs (sch1 bs t) t) := by unfold w1; rw [if_pos h16]; rfl
        clear hA hZ hBt hset ho hl hw
        go_wp2_with (go_at_call 57; refine hwr.mono ?_; rintro e w' ⟨rfl, q, rfl⟩)
        go_roundw
        case rel =>
          obtain ⟨hA, hZ, hBt, hset⟩ := HH.out
          refine ⟨t + 1, by go_num, by omega, ?_, ?_, ?_⟩
          · have h1 : Arr .u32 63 (wr.drewN q) (w.heap.size + 1) _ := hA
            have := h1.set t (wd32 bs t); rw [hset _ HV.out] at this; exact this
          · have h1 : Arr .u32 63 (wr.drewN q) w.heap.size _ := hZ
            exact (Upd.set _ (w.heap.size + 1) t _).arr h1 (by omega)
          · exact Below.setCell (w := wr.drewN q) (p := ⟨w.heap.size + 1, t, none⟩) (hBt.trans ⟨rfl, rfl, rfl, Nat.le_refl _, fun _ _ => rfl⟩) (show w.heap.size ≤ w.heap.size + 1 by omega) _
        case measure => simp [intOf]; omega
      · have hget : ∀ j, j < t → (sch1 bs t ++ List.replicate (80 - t) 0).getD j 0 = (sch1 bs t).getD j 0 := fun j hj => by
          rw [List.getD_eq_getElem?_getD, List.getElem?_append_left (by rw [sch1_len]; exact hj), ← List.getD_eq_getElem?_getD]
        obtain ⟨x3, e3⟩ : ∃ x, (sch1 bs t).getD (t - 3) 0 = x := ⟨_, rfl⟩
        obtain ⟨x8, e8⟩ : ∃ x, (sch1 bs t).getD (t - 8) 0 = x := ⟨_, rfl⟩
        obtain ⟨x14, e14⟩ : ∃ x, (sch1 bs t).getD (t - 14) 0 = x := ⟨_, rfl⟩
        obtain ⟨x16, e16⟩ : ∃ x, (sch1 bs t).getD (t - 16) 0 = x := ⟨_, rfl⟩
        have c3 : wr.cell? ⟨w.heap.size + 1, t - 3, none⟩ = some (.int .u32 x3) := by rw [hA.cell (t - 3) (by omega), hget _ (by omega), e3]
        have c8 : wr.cell? ⟨w.heap.size + 1, t - 8, none⟩ = some (.int .u32 x8) := by rw [hA.cell (t - 8) (by omega), hget _ (by omega), e8]
        have c14 : wr.cell? ⟨w.heap.size + 1, t - 14, none⟩ = some (.int .u32 x14) := by rw [hA.cell (t - 14) (by omega), hget _ (by omega), e14]
        have c16 : wr.cell? ⟨w.heap.size + 1, t - 16, none⟩ = some (.int .u32 x16) := by rw [hA.cell (t - 16) (by omega), hget _ (by omega), e16]
        have HV : Hid (rot32 (bits .xor .u32 (bits .xor .u32 (bits .xor .u32 x3 x8) x14) x16) (sh32 1) = w1 bs (sch1 bs t) t) := by
          unfold w1; rw [if_neg h16, e3, e8, e14, e16]; rfl
        clear hA hZ hBt hset ho hl e3 e8 e14 e16 hget
        go_upto_region 7 with (fail)
        refine wp_region_qsd 22 (by kernel_rfl) (by kernel_rfl) ?_
        simp only [List.take_succ_cons, List.take_zero, List.drop_succ_cons, List.drop_zero]
        repeat (go_big_quiet_step ((go_at_call 51; exact Calls.quiet_of_same (rot32_any _ _ (bits_u32 _ _ _)))))
        refine wpQuiet_nil ?_
        rintro _ ⟨q, rfl⟩
        go_wp2
        go_roundw
        case rel =>
          obtain ⟨hA, hZ, hBt, hset⟩ := HH.out
          refine ⟨t + 1, by go_num, by omega, ?_, ?_, ?_⟩
          · have h1 : Arr .u32 63 (wr.drewN q) (w.heap.size + 1) _ := hA
            have := h1.set t (w1 bs (sch1 bs t) t); rw [hset _ rfl, ← HV.out] at this; exact this
          · have h1 : Arr .u32 63 (wr.drewN q) w.heap.size _ := hZ
            exact (Upd.set _ (w.heap.size + 1) t _).arr h1 (by omega)
          · exact Below.setCell (w := wr.drewN q) (p := ⟨w.heap.size + 1, t, none⟩) (hBt.trans ⟨rfl, rfl, rfl, Nat.le_refl _, fun _ _ => rfl⟩) (show w.heap.size ≤ w.heap.size + 1 by omega) _
        case measure => simp [intOf]; omega
    · obtain rfl : t = 80 := by omega
      have hA' : Blk 63 wr (w.heap.size + 1) ((sch1 bs 80).map (Value.int .u32)) := by simpa using hA.blk
      have hlen : ((sch1 bs 80).map (Value.int .u32)).length = 80 := by simp [sch1_len]
      have hsz : (Tryd.prog.info? 63).map (·.size) = some ((sch1 bs 80).map (Value.int .u32)).length := by rw [hlen]; exact Tryd.size80w
      have hone := ints_one .u32 (sch1 bs 80)
      have hZl : (List.replicate 80 (0 : Int)).length = 80 := by simp
      obtain ⟨cs, hcs⟩ : ∃ cs, (sch1 bs 80).map (Value.int .u32) = cs := ⟨_, rfl⟩
      rw [hcs] at hA' hlen hsz hone
      have HC : Hid ((sch1 bs 80).map (Value.int .u32) = cs) := hcs
      clear hcs
      have hZb := hZ.blk
      have HF : Hid (Blk 63 (wr.setCells w.heap.size 0 cs) w.heap.size cs ∧ Below w.heap.size w (wr.setCells w.heap.size 0 cs)) := ⟨hZb.fill cs (by simp [hlen]), (Upd.setCells cs 0 wr).below hBt hBt.size (Nat.le_refl _)⟩
      have hth : wr.there w.heap.size 0 cs.toArray.size := hZb.there 0 _ (by simp [hlen])
      have hrg := hA'.whole
      have HA : Hid (wr.rangeAt (w.heap.size + 1) 0 cs ∧ wr.there w.heap.size 0 cs.toArray.size) := ⟨hrg, hth⟩
      have HS : Hid ((Tryd.prog.info? 63).map (·.size) = some cs.length) := hsz
      have HO : Hid (cs.toArray.all (·.oneCell') = true) := hone
      clear hA hZ hBt hA' hlen hsz hone hZl hZb hth hrg
      go_wp2_with (first
        | (refine wpList_load_mid rfl _ _ rfl (w.heap.size + 1) 0 rfl cs _ HA.out.1 Tryd.underlying63 rfl HS.out ?_)
        | (refine wpList_store_mid rfl _ _ _ rfl w.heap.size 0 cs.toArray rfl rfl HA.out.2 (by simpa using HS.out) HO.out ?_))
      refine bodyPost_ret (v := .agg cs.toArray) (results_blk (b := w.heap.size) (cs := cs) rfl rfl HF.out.1 Tryd.underlying63 rfl HS.out) rfl ⟨by rw [HC.out], HF.out.2⟩
end Go.Proofs.YtgipmjpkaemdkaaDoor
