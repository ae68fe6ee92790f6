/-
  Digest: the walk of word32: four bytes of a block, the highest first.
-/
import Derived.Test.YtndoibmpnhkmpaaGreatDoorK5
namespace Go.Proofs.YtndoibmpnhkmpaaGreatDoor.Sh
open Go.RowKit
set_option maxRecDepth 20000

def U8 (x : Int) : Prop := 0 ≤ x ∧ x < 256
def U8s (xs : List Int) : Prop := ∀ x ∈ xs, U8 x
theorem U8s.at {xs : List Int} (h : U8s xs) (i : Nat) : U8 (xs.getD i 0) := by
  by_cases hi : i < xs.length
  · simp [hi]; exact h _ (List.getElem_mem hi)
  · simp [List.getD, List.getElem?_eq_none (Nat.le_of_not_lt hi), U8]
/-- The word t of a block. -/
def wd32 (bs : List Int) (t : Nat) : Int := bs.getD (4 * t) 0 * 16777216 + bs.getD (4 * t + 1) 0 * 65536 + bs.getD (4 * t + 2) 0 * 256 + bs.getD (4 * t + 3) 0
theorem wd32_u32 {bs : List Int} (h : U8s bs) (t : Nat) : U32 (wd32 bs t) := by
  have h0 := h.at (4 * t); have h1 := h.at (4 * t + 1); have h2 := h.at (4 * t + 2); have h3 := h.at (4 * t + 3)
  unfold U8 at h0 h1 h2 h3
  unfold wd32 U32; omega
theorem or_hi (s : Nat) (x y : Int) (hx0 : 0 ≤ x) (hx : x * 2 ^ s < 4294967296) (hy0 : 0 ≤ y) (hy : y < 2 ^ s) (hs : s ≤ 32) : bits .or .u32 (x * 2 ^ s) y = x * 2 ^ s + y := by
  obtain ⟨a, rfl⟩ := Int.eq_ofNat_of_zero_le hx0
  obtain ⟨b, rfl⟩ := Int.eq_ofNat_of_zero_le hy0
  have e : ((a * 2 ^ s : Nat) : Int) = (a : Int) * 2 ^ s := by simp
  have hb : b < 2 ^ s := by
    have : ((b : Nat) : Int) < ((2 ^ s : Nat) : Int) := by rw [Int.natCast_pow]; exact hy
    exact Int.ofNat_lt.1 this
  have ha : a * 2 ^ s < 2 ^ 32 := by
    have : ((a * 2 ^ s : Nat) : Int) < ((2 ^ 32 : Nat) : Int) := by rw [e]; exact hx
    exact Int.ofNat_lt.1 this
  have hb2 : b < 2 ^ 32 := Nat.lt_of_lt_of_le hb (Nat.pow_le_pow_right (by decide) hs)
  have h := (bits_nat .u32 32 (by decide) (fun n h₀ h₁ => by rw [IntKind.wrap_u32']; omega) (a * 2 ^ s) b ha hb2).2
  rw [e] at h
  rw [h, Nat.mul_comm a, ← Nat.two_pow_add_eq_or_of_lt hb a, Nat.mul_comm, Int.natCast_add, e]

set_option maxHeartbeats 1000000 in
theorem word32_any {w : World} (b off len c : Nat) (bs : List Int) (hr : Rd .u8 w b off bs) (ub : U8s bs) (t : Nat) (hlen : bs.length ≤ len) (hlc : len ≤ c) (ht : 4 * t + 4 ≤ bs.length) (hc : bs.length ≤ 1024) :
    Calls Tryz.prog 148 #[.slice (some ⟨b, off, none⟩) len c, .int .i64 t] w fun e w' => e = .returned (.int .u32 (wd32 bs t)) ∧ ∃ q, w' = w.drewN q := by
  obtain ⟨x0, h0⟩ : ∃ x, bs.getD (4 * t) 0 = x := ⟨_, rfl⟩
  obtain ⟨x1, h1⟩ : ∃ x, bs.getD (4 * t + 1) 0 = x := ⟨_, rfl⟩
  obtain ⟨x2, h2⟩ : ∃ x, bs.getD (4 * t + 2) 0 = x := ⟨_, rfl⟩
  obtain ⟨x3, h3⟩ : ∃ x, bs.getD (4 * t + 3) 0 = x := ⟨_, rfl⟩
  have u0 : U8 x0 := h0 ▸ ub.at _
  have u1 : U8 x1 := h1 ▸ ub.at _
  have u2 : U8 x2 := h2 ▸ ub.at _
  have u3 : U8 x3 := h3 ▸ ub.at _
  obtain ⟨a01, a02⟩ := u0
  obtain ⟨a11, a12⟩ := u1
  obtain ⟨a21, a22⟩ := u2
  obtain ⟨a31, a32⟩ := u3
  have c0 : w.cell? ⟨b, off + 4 * t, none⟩ = some (.int .u8 x0) := by rw [hr (4 * t) (by omega), h0]
  have c1 : w.cell? ⟨b, off + 4 * t + 1, none⟩ = some (.int .u8 x1) := by rw [Nat.add_assoc, hr (4 * t + 1) (by omega), h1]
  have c2 : w.cell? ⟨b, off + 4 * t + 2, none⟩ = some (.int .u8 x2) := by rw [Nat.add_assoc, hr (4 * t + 2) (by omega), h2]
  have c3 : w.cell? ⟨b, off + 4 * t + 3, none⟩ = some (.int .u8 x3) := by rw [Nat.add_assoc, hr (4 * t + 3) (by omega), h3]
  have HW : Hid (wd32 bs t = x0 * 16777216 + x1 * 65536 + x2 * 256 + x3) := by unfold wd32; rw [h0, h1, h2, h3]; rfl
  have e1 : bits .or .u32 (x0 * 16777216) (x1 * 65536) = x0 * 16777216 + x1 * 65536 := or_hi 24 x0 (x1 * 65536) a01 (by omega) (by omega) (by omega) (by decide)
  have e2 : bits .or .u32 (x0 * 16777216 + x1 * 65536) (x2 * 256) = x0 * 16777216 + x1 * 65536 + x2 * 256 := by
    have := or_hi 16 (x0 * 256 + x1) (x2 * 256) (by omega) (by omega) (by omega) (by omega) (by decide)
    have e : (x0 * 256 + x1) * 2 ^ 16 = x0 * 16777216 + x1 * 65536 := by omega
    rw [e] at this; exact this
  have e3 : bits .or .u32 (x0 * 16777216 + x1 * 65536 + x2 * 256) x3 = x0 * 16777216 + x1 * 65536 + x2 * 256 + x3 := by
    have := or_hi 8 (x0 * 65536 + x1 * 256 + x2) x3 (by omega) (by omega) (by omega) (by omega) (by decide)
    have e : (x0 * 65536 + x1 * 256 + x2) * 2 ^ 8 = x0 * 16777216 + x1 * 65536 + x2 * 256 := by omega
    rw [e] at this; exact this
  have hne : ¬ c = 4 * t := by omega
  clear h0 h1 h2 h3 hr ub
  go_enter Tryz.func148, Tryz.ntmps148
  go_upto_region 2 with (fail)
  go_quiet (fail)
  go_wp2
  go_ret
  exact ⟨by rw [HW.out]; rfl, _, rfl⟩
end Go.Proofs.YtndoibmpnhkmpaaGreatDoor.Sh
/-
  Digest: the walk of words256's loop.
-/
namespace Go.Proofs.YtndoibmpnhkmpaaGreatDoor.Sh
open Go.RowKit
set_option maxRecDepth 20000

def w256 (bs W : List Int) (t : Nat) : Int :=
  if t < 16 then wd32 bs t else (mvd32 (W.getD (t - 2) 0) 17 19 10 + W.getD (t - 7) 0 + mvd32 (W.getD (t - 15) 0) 7 18 3 + W.getD (t - 16) 0) % 4294967296
def sch256 (bs : List Int) : Nat → List Int
  | 0 => []
  | t + 1 => sch256 bs t ++ [w256 bs (sch256 bs t) t]
theorem sch256_len (bs : List Int) (t : Nat) : (sch256 bs t).length = t := by
  induction t with
  | zero => rfl
  | succ t ih => simp [sch256, ih]
theorem u32_mod (x : Int) : U32 (x % 4294967296) := ⟨Int.emod_nonneg _ (by decide), Int.emod_lt_of_pos _ (by decide)⟩
theorem Tryz.size64w : (Tryz.prog.info? 113).map (·.size) = some 64 := by kernel_rfl
theorem sch256_u32 {bs : List Int} (h : U8s bs) (t : Nat) : U32s (sch256 bs t) := by
  induction t with
  | zero => exact U32s.nil
  | succ t ih =>
    refine ih.append (U32s.cons ?_ U32s.nil)
    unfold w256; split
    · exact wd32_u32 h t
    · exact u32_mod _

theorem moved32_I (x i j k : Int) (w : World) (hx : U32 x) (hi : 1 ≤ i ∧ i ≤ 31) (hj : 1 ≤ j ∧ j ≤ 31) (hk : 0 ≤ k ∧ k ≤ 31) :
    Calls Tryz.prog 149 #[.int .u32 x, .int .i64 i, .int .i64 j, .int .i64 k] w fun e w' => e = .returned (.int .u32 (mvd32 x i.toNat j.toNat k.toNat)) ∧ ∃ q, w' = w.drewN q := by
  obtain ⟨i, rfl⟩ := Int.eq_ofNat_of_zero_le (show 0 ≤ i by omega)
  obtain ⟨j, rfl⟩ := Int.eq_ofNat_of_zero_le (show 0 ≤ j by omega)
  obtain ⟨k, rfl⟩ := Int.eq_ofNat_of_zero_le hk.1
  simp only [Int.toNat_natCast]
  exact moved32_any x hx i j k (by omega) (by omega) (by omega)
set_option maxHeartbeats 500000 in
theorem words256_any {w : World} (b off len c : Nat) (bs : List Int) (hb : b < w.heap.size) (hr : Rd .u8 w b off bs) (ub : U8s bs) (hlen : bs.length ≤ len) (hlc : len ≤ c) (hbs : bs.length = 64) :
    Calls Tryz.prog 140 #[.slice (some ⟨b, off, none⟩) len c] w fun e w' => e = .returned (.agg ((sch256 bs 64).map (Value.int .u32)).toArray) ∧ Below w.heap.size w w' := by
  go_enter Tryz.func140, Tryz.ntmps140
  go_wp2
  go_loopw [5] (fun iv wr => ∃ t : Nat, iv = .int .i64 t ∧ t ≤ 64 ∧ Arr .u32 113 wr (w.heap.size + 1) (sch256 bs t ++ List.replicate (64 - t) 0) ∧ Arr .u32 113 wr w.heap.size (List.replicate 64 0) ∧ Below w.heap.size w wr) (fun iv _ => 64 - (intOf iv).toNat)
  case atStart =>
    refine ⟨0, rfl, by omega, ?_, ?_, ((Below.refl _ _).alloc (Nat.le_refl _) _).alloc (by simp) _⟩
    · unfold Arr; rw [show w.heap.size + 1 = (w.alloc _).heap.size by simp, heap_alloc_new]; rfl
    · unfold Arr; rw [Below.heap_alloc _ _ _ (by simp), heap_alloc_new]; rfl
  case round =>
    obtain ⟨t, rfl, ht, hA, hZ, hBt⟩ := hrel
    by_cases hlt : t < 64
    · have hl : (sch256 bs t ++ List.replicate (64 - t) 0).length = 64 := by simp [sch256_len]; omega
      have hset : ∀ x, x = w256 bs (sch256 bs t) t → (sch256 bs t ++ List.replicate (64 - t) 0).set t x = sch256 bs (t + 1) ++ List.replicate (64 - (t + 1)) 0 := fun x hx => by
        have h1 := sch256_len bs t
        rw [List.set_append_right _ _ (by omega), h1, Nat.sub_self, show 64 - t = (64 - (t + 1)) + 1 by omega, List.replicate_succ, List.set_cons_zero, hx]
        simp [sch256]
      have hco := hA.cell t (by omega)
      obtain ⟨o, ho⟩ : ∃ o, (sch256 bs t ++ List.replicate (64 - t) 0).getD t 0 = o := ⟨_, rfl⟩
      rw [ho] at hco
      have hfo := hA.frozen t
      have HH : Hid (Arr .u32 113 wr (w.heap.size + 1) (sch256 bs t ++ List.replicate (64 - t) 0) ∧ Arr .u32 113 wr w.heap.size (List.replicate 64 0) ∧ Below w.heap.size w wr ∧ ∀ x, x = w256 bs (sch256 bs t) t → (sch256 bs t ++ List.replicate (64 - t) 0).set t x = sch256 bs (t + 1) ++ List.replicate (64 - (t + 1)) 0) := ⟨hA, hZ, hBt, hset⟩
      by_cases h16 : t < 16
      · have hw := fun w' (h' : Below w.heap.size w w') => word32_any (w := w') b off len c bs (below_rd h' hb hr) ub t hlen hlc (by omega) (by omega)
        have hwr := hw wr hBt
        have HV : Hid (wd32 bs t = w256 bs (sch256 bs t) t) := by unfold w256; rw [if_pos h16]; rfl
        clear hA hZ hBt hset ho hl hw
        go_wp2_with (go_at_call 148; refine hwr.mono ?_; rintro e w' ⟨rfl, q, rfl⟩)
        go_roundw
        case rel =>
          obtain ⟨hA, hZ, hBt, hset⟩ := HH.out
          refine ⟨t + 1, by go_num, by omega, ?_, ?_, ?_⟩
          · have h1 : Arr .u32 113 (wr.drewN q) (w.heap.size + 1) _ := hA
            have := h1.set t (wd32 bs t); rw [hset _ HV.out] at this; exact this
          · have h1 : Arr .u32 113 (wr.drewN q) w.heap.size _ := hZ
            exact (Upd.set _ (w.heap.size + 1) t _).arr h1 (by omega)
          · exact Below.setCell (w := wr.drewN q) (p := ⟨w.heap.size + 1, t, none⟩) (hBt.trans ⟨rfl, rfl, rfl, Nat.le_refl _, fun _ _ => rfl⟩) (show w.heap.size ≤ w.heap.size + 1 by omega) _
        case measure => simp [intOf]; omega
      · have hget : ∀ j, j < t → (sch256 bs t ++ List.replicate (64 - t) 0).getD j 0 = (sch256 bs t).getD j 0 := fun j hj => by
          rw [List.getD_eq_getElem?_getD, List.getElem?_append_left (by rw [sch256_len]; exact hj), ← List.getD_eq_getElem?_getD]
        obtain ⟨x2, e2⟩ : ∃ x, (sch256 bs t).getD (t - 2) 0 = x := ⟨_, rfl⟩
        obtain ⟨x7, e7⟩ : ∃ x, (sch256 bs t).getD (t - 7) 0 = x := ⟨_, rfl⟩
        obtain ⟨x15, e15⟩ : ∃ x, (sch256 bs t).getD (t - 15) 0 = x := ⟨_, rfl⟩
        obtain ⟨x16, e16⟩ : ∃ x, (sch256 bs t).getD (t - 16) 0 = x := ⟨_, rfl⟩
        have u2 : Hid (U32 x2) := e2 ▸ (sch256_u32 ub _).at _
        have u15 : Hid (U32 x15) := e15 ▸ (sch256_u32 ub _).at _
        have c2 : wr.cell? ⟨w.heap.size + 1, t - 2, none⟩ = some (.int .u32 x2) := by rw [hA.cell (t - 2) (by omega), hget _ (by omega), e2]
        have c7 : wr.cell? ⟨w.heap.size + 1, t - 7, none⟩ = some (.int .u32 x7) := by rw [hA.cell (t - 7) (by omega), hget _ (by omega), e7]
        have c15 : wr.cell? ⟨w.heap.size + 1, t - 15, none⟩ = some (.int .u32 x15) := by rw [hA.cell (t - 15) (by omega), hget _ (by omega), e15]
        have c16 : wr.cell? ⟨w.heap.size + 1, t - 16, none⟩ = some (.int .u32 x16) := by rw [hA.cell (t - 16) (by omega), hget _ (by omega), e16]
        have HV : Hid ((mvd32 x2 17 19 10 + x7 + mvd32 x15 7 18 3 + x16) % 4294967296 = w256 bs (sch256 bs t) t) := by
          unfold w256; rw [if_neg h16, e2, e7, e15, e16]; rfl
        clear hA hZ hBt hset ho hl e2 e7 e15 e16 hget
        go_upto_region 7 with (fail)
        refine wp_region_qsd 23 (by kernel_rfl) (by kernel_rfl) ?_
        simp only [List.take_succ_cons, List.take_zero, List.drop_succ_cons, List.drop_zero]
        repeat (go_big_quiet_step ((go_at_call 149; exact Calls.quiet_of (moved32_I _ _ _ _ _ (by first | exact u2.out | exact u15.out) (by omega) (by omega) (by omega)))))
        refine wpQuiet_nil ?_
        rintro _ ⟨q, rfl⟩
        go_wp2
        go_roundw
        case rel =>
          obtain ⟨hA, hZ, hBt, hset⟩ := HH.out
          refine ⟨t + 1, by go_num, by omega, ?_, ?_, ?_⟩
          · have h1 : Arr .u32 113 (wr.drewN q) (w.heap.size + 1) _ := hA
            have := h1.set t (w256 bs (sch256 bs t) t); rw [hset _ rfl, ← HV.out] at this; exact this
          · have h1 : Arr .u32 113 (wr.drewN q) w.heap.size _ := hZ
            exact (Upd.set _ (w.heap.size + 1) t _).arr h1 (by omega)
          · exact Below.setCell (w := wr.drewN q) (p := ⟨w.heap.size + 1, t, none⟩) (hBt.trans ⟨rfl, rfl, rfl, Nat.le_refl _, fun _ _ => rfl⟩) (show w.heap.size ≤ w.heap.size + 1 by omega) _
        case measure => simp [intOf]; omega
    · obtain rfl : t = 64 := by omega
      have hA' : Blk 113 wr (w.heap.size + 1) ((sch256 bs 64).map (Value.int .u32)) := by simpa using hA.blk
      have hlen : ((sch256 bs 64).map (Value.int .u32)).length = 64 := by simp [sch256_len]
      have hsz : (Tryz.prog.info? 113).map (·.size) = some ((sch256 bs 64).map (Value.int .u32)).length := by rw [hlen]; exact Tryz.size64w
      have hone := ints_one .u32 (sch256 bs 64)
      have hZl : (List.replicate 64 (0 : Int)).length = 64 := by simp
      obtain ⟨cs, hcs⟩ : ∃ cs, (sch256 bs 64).map (Value.int .u32) = cs := ⟨_, rfl⟩
      rw [hcs] at hA' hlen hsz hone
      have HC : Hid ((sch256 bs 64).map (Value.int .u32) = cs) := hcs
      clear hcs
      have hZb := hZ.blk
      have HF : Hid (Blk 113 (wr.setCells w.heap.size 0 cs) w.heap.size cs ∧ Below w.heap.size w (wr.setCells w.heap.size 0 cs)) := ⟨hZb.fill cs (by simp [hlen]), (Upd.setCells cs 0 wr).below hBt hBt.size (Nat.le_refl _)⟩
      have hth : wr.there w.heap.size 0 cs.toArray.size := hZb.there 0 _ (by simp [hlen])
      have hrg := hA'.whole
      have HA : Hid (wr.rangeAt (w.heap.size + 1) 0 cs ∧ wr.there w.heap.size 0 cs.toArray.size) := ⟨hrg, hth⟩
      have HS : Hid ((Tryz.prog.info? 113).map (·.size) = some cs.length) := hsz
      have HO : Hid (cs.toArray.all (·.oneCell') = true) := hone
      clear hA hZ hBt hA' hlen hsz hone hZl hZb hth hrg
      go_wp2_with (first
        | (refine wpList_load_mid rfl _ _ rfl (w.heap.size + 1) 0 rfl cs _ HA.out.1 Tryz.underlying113 rfl HS.out ?_)
        | (refine wpList_store_mid rfl _ _ _ rfl w.heap.size 0 cs.toArray rfl rfl HA.out.2 (by simpa using HS.out) HO.out ?_))
      refine bodyPost_ret (v := .agg cs.toArray) (results_blk (b := w.heap.size) (cs := cs) rfl rfl HF.out.1 Tryz.underlying113 rfl HS.out) rfl ⟨by rw [HC.out], HF.out.2⟩
end Go.Proofs.YtndoibmpnhkmpaaGreatDoor.Sh
/-
  Digest: the walk of words1.
-/
namespace Go.Proofs.YtndoibmpnhkmpaaGreatDoor.Sh
open Go.RowKit
set_option maxRecDepth 20000

def w1 (bs W : List Int) (t : Nat) : Int :=
  if t < 16 then wd32 bs t else rot32 (bits .xor .u32 (bits .xor .u32 (bits .xor .u32 (W.getD (t - 3) 0) (W.getD (t - 8) 0)) (W.getD (t - 14) 0)) (W.getD (t - 16) 0)) 1
def sch1 (bs : List Int) : Nat → List Int
  | 0 => []
  | t + 1 => sch1 bs t ++ [w1 bs (sch1 bs t) t]
theorem sch1_len (bs : List Int) (t : Nat) : (sch1 bs t).length = t := by
  induction t with
  | zero => rfl
  | succ t ih => simp [sch1, ih]
theorem Tryz.size80w : (Tryz.prog.info? 111).map (·.size) = some 80 := by kernel_rfl
theorem bits_u32 (op : BinOp) (x y : Int) : U32 (bits op .u32 x y) := by
  unfold bits; simp only []; rw [IntKind.wrap_u32']; exact ⟨Int.emod_nonneg _ (by decide), Int.emod_lt_of_pos _ (by decide)⟩
theorem sch1_u32 {bs : List Int} (h : U8s bs) (t : Nat) : U32s (sch1 bs t) := by
  induction t with
  | zero => exact U32s.nil
  | succ t ih =>
    refine ih.append (U32s.cons ?_ U32s.nil)
    unfold w1; split
    · exact wd32_u32 h t
    · exact bits_u32 _ _ _

set_option maxHeartbeats 500000 in
theorem words1_any {w : World} (b off len c : Nat) (bs : List Int) (hb : b < w.heap.size) (hr : Rd .u8 w b off bs) (ub : U8s bs) (hlen : bs.length ≤ len) (hlc : len ≤ c) (hbs : bs.length = 64) :
    Calls Tryz.prog 137 #[.slice (some ⟨b, off, none⟩) len c] w fun e w' => e = .returned (.agg ((sch1 bs 80).map (Value.int .u32)).toArray) ∧ Below w.heap.size w w' := by
  go_enter Tryz.func137, Tryz.ntmps137
  go_wp2
  go_loopw [5] (fun iv wr => ∃ t : Nat, iv = .int .i64 t ∧ t ≤ 80 ∧ Arr .u32 111 wr (w.heap.size + 1) (sch1 bs t ++ List.replicate (80 - t) 0) ∧ Arr .u32 111 wr w.heap.size (List.replicate 80 0) ∧ Below w.heap.size w wr) (fun iv _ => 80 - (intOf iv).toNat)
  case atStart =>
    refine ⟨0, rfl, by omega, ?_, ?_, ((Below.refl _ _).alloc (Nat.le_refl _) _).alloc (by simp) _⟩
    · unfold Arr; rw [show w.heap.size + 1 = (w.alloc _).heap.size by simp, heap_alloc_new]; rfl
    · unfold Arr; rw [Below.heap_alloc _ _ _ (by simp), heap_alloc_new]; rfl
  case round =>
    obtain ⟨t, rfl, ht, hA, hZ, hBt⟩ := hrel
    by_cases hlt : t < 80
    · have hl : (sch1 bs t ++ List.replicate (80 - t) 0).length = 80 := by simp [sch1_len]; omega
      have hset : ∀ x, x = w1 bs (sch1 bs t) t → (sch1 bs t ++ List.replicate (80 - t) 0).set t x = sch1 bs (t + 1) ++ List.replicate (80 - (t + 1)) 0 := fun x hx => by
        have h1 := sch1_len bs t
        rw [List.set_append_right _ _ (by omega), h1, Nat.sub_self, show 80 - t = (80 - (t + 1)) + 1 by omega, List.replicate_succ, List.set_cons_zero, hx]
        simp [sch1]
      have hco := hA.cell t (by omega)
      obtain ⟨o, ho⟩ : ∃ o, (sch1 bs t ++ List.replicate (80 - t) 0).getD t 0 = o := ⟨_, rfl⟩
      rw [ho] at hco
      have hfo := hA.frozen t
      have HH : Hid (Arr .u32 111 wr (w.heap.size + 1) (sch1 bs t ++ List.replicate (80 - t) 0) ∧ Arr .u32 111 wr w.heap.size (List.replicate 80 0) ∧ Below w.heap.size w wr ∧ ∀ x, x = w1 bs (sch1 bs t) t → (sch1 bs t ++ List.replicate (80 - t) 0).set t x = sch1 bs (t + 1) ++ List.replicate (80 - (t + 1)) 0) := ⟨hA, hZ, hBt, hset⟩
      by_cases h16 : t < 16
      · have hw := fun w' (h' : Below w.heap.size w w') => word32_any (w := w') b off len c bs (below_rd h' hb hr) ub t hlen hlc (by omega) (by omega)
        have hwr := hw wr hBt
        have HV : Hid (wd32 bs t = w1 bs (sch1 bs t) t) := by unfold w1; rw [if_pos h16]; rfl
        clear hA hZ hBt hset ho hl hw
        go_wp2_with (go_at_call 148; refine hwr.mono ?_; rintro e w' ⟨rfl, q, rfl⟩)
        go_roundw
        case rel =>
          obtain ⟨hA, hZ, hBt, hset⟩ := HH.out
          refine ⟨t + 1, by go_num, by omega, ?_, ?_, ?_⟩
          · have h1 : Arr .u32 111 (wr.drewN q) (w.heap.size + 1) _ := hA
            have := h1.set t (wd32 bs t); rw [hset _ HV.out] at this; exact this
          · have h1 : Arr .u32 111 (wr.drewN q) w.heap.size _ := hZ
            exact (Upd.set _ (w.heap.size + 1) t _).arr h1 (by omega)
          · exact Below.setCell (w := wr.drewN q) (p := ⟨w.heap.size + 1, t, none⟩) (hBt.trans ⟨rfl, rfl, rfl, Nat.le_refl _, fun _ _ => rfl⟩) (show w.heap.size ≤ w.heap.size + 1 by omega) _
        case measure => simp [intOf]; omega
      · have hget : ∀ j, j < t → (sch1 bs t ++ List.replicate (80 - t) 0).getD j 0 = (sch1 bs t).getD j 0 := fun j hj => by
          rw [List.getD_eq_getElem?_getD, List.getElem?_append_left (by rw [sch1_len]; exact hj), ← List.getD_eq_getElem?_getD]
        obtain ⟨x3, e3⟩ : ∃ x, (sch1 bs t).getD (t - 3) 0 = x := ⟨_, rfl⟩
        obtain ⟨x8, e8⟩ : ∃ x, (sch1 bs t).getD (t - 8) 0 = x := ⟨_, rfl⟩
        obtain ⟨x14, e14⟩ : ∃ x, (sch1 bs t).getD (t - 14) 0 = x := ⟨_, rfl⟩
        obtain ⟨x16, e16⟩ : ∃ x, (sch1 bs t).getD (t - 16) 0 = x := ⟨_, rfl⟩
        have c3 : wr.cell? ⟨w.heap.size + 1, t - 3, none⟩ = some (.int .u32 x3) := by rw [hA.cell (t - 3) (by omega), hget _ (by omega), e3]
        have c8 : wr.cell? ⟨w.heap.size + 1, t - 8, none⟩ = some (.int .u32 x8) := by rw [hA.cell (t - 8) (by omega), hget _ (by omega), e8]
        have c14 : wr.cell? ⟨w.heap.size + 1, t - 14, none⟩ = some (.int .u32 x14) := by rw [hA.cell (t - 14) (by omega), hget _ (by omega), e14]
        have c16 : wr.cell? ⟨w.heap.size + 1, t - 16, none⟩ = some (.int .u32 x16) := by rw [hA.cell (t - 16) (by omega), hget _ (by omega), e16]
        have HV : Hid (rot32 (bits .xor .u32 (bits .xor .u32 (bits .xor .u32 x3 x8) x14) x16) (sh32 1) = w1 bs (sch1 bs t) t) := by
          unfold w1; rw [if_neg h16, e3, e8, e14, e16]; rfl
        clear hA hZ hBt hset ho hl e3 e8 e14 e16 hget
        go_upto_region 7 with (fail)
        refine wp_region_qsd 22 (by kernel_rfl) (by kernel_rfl) ?_
        simp only [List.take_succ_cons, List.take_zero, List.drop_succ_cons, List.drop_zero]
        repeat (go_big_quiet_step ((go_at_call 138; exact Calls.quiet_of_same (rot32_any _ _ (bits_u32 _ _ _)))))
        refine wpQuiet_nil ?_
        rintro _ ⟨q, rfl⟩
        go_wp2
        go_roundw
        case rel =>
          obtain ⟨hA, hZ, hBt, hset⟩ := HH.out
          refine ⟨t + 1, by go_num, by omega, ?_, ?_, ?_⟩
          · have h1 : Arr .u32 111 (wr.drewN q) (w.heap.size + 1) _ := hA
            have := h1.set t (w1 bs (sch1 bs t) t); rw [hset _ rfl, ← HV.out] at this; exact this
          · have h1 : Arr .u32 111 (wr.drewN q) w.heap.size _ := hZ
            exact (Upd.set _ (w.heap.size + 1) t _).arr h1 (by omega)
          · exact Below.setCell (w := wr.drewN q) (p := ⟨w.heap.size + 1, t, none⟩) (hBt.trans ⟨rfl, rfl, rfl, Nat.le_refl _, fun _ _ => rfl⟩) (show w.heap.size ≤ w.heap.size + 1 by omega) _
        case measure => simp [intOf]; omega
    · obtain rfl : t = 80 := by omega
      have hA' : Blk 111 wr (w.heap.size + 1) ((sch1 bs 80).map (Value.int .u32)) := by simpa using hA.blk
      have hlen : ((sch1 bs 80).map (Value.int .u32)).length = 80 := by simp [sch1_len]
      have hsz : (Tryz.prog.info? 111).map (·.size) = some ((sch1 bs 80).map (Value.int .u32)).length := by rw [hlen]; exact Tryz.size80w
      have hone := ints_one .u32 (sch1 bs 80)
      have hZl : (List.replicate 80 (0 : Int)).length = 80 := by simp
      obtain ⟨cs, hcs⟩ : ∃ cs, (sch1 bs 80).map (Value.int .u32) = cs := ⟨_, rfl⟩
      rw [hcs] at hA' hlen hsz hone
      have HC : Hid ((sch1 bs 80).map (Value.int .u32) = cs) := hcs
      clear hcs
      have hZb := hZ.blk
      have HF : Hid (Blk 111 (wr.setCells w.heap.size 0 cs) w.heap.size cs ∧ Below w.heap.size w (wr.setCells w.heap.size 0 cs)) := ⟨hZb.fill cs (by simp [hlen]), (Upd.setCells cs 0 wr).below hBt hBt.size (Nat.le_refl _)⟩
      have hth : wr.there w.heap.size 0 cs.toArray.size := hZb.there 0 _ (by simp [hlen])
      have hrg := hA'.whole
      have HA : Hid (wr.rangeAt (w.heap.size + 1) 0 cs ∧ wr.there w.heap.size 0 cs.toArray.size) := ⟨hrg, hth⟩
      have HS : Hid ((Tryz.prog.info? 111).map (·.size) = some cs.length) := hsz
      have HO : Hid (cs.toArray.all (·.oneCell') = true) := hone
      clear hA hZ hBt hA' hlen hsz hone hZl hZb hth hrg
      go_wp2_with (first
        | (refine wpList_load_mid rfl _ _ rfl (w.heap.size + 1) 0 rfl cs _ HA.out.1 Tryz.underlying111 rfl HS.out ?_)
        | (refine wpList_store_mid rfl _ _ _ rfl w.heap.size 0 cs.toArray rfl rfl HA.out.2 (by simpa using HS.out) HO.out ?_))
      refine bodyPost_ret (v := .agg cs.toArray) (results_blk (b := w.heap.size) (cs := cs) rfl rfl HF.out.1 Tryz.underlying111 rfl HS.out) rfl ⟨by rw [HC.out], HF.out.2⟩
end Go.Proofs.YtndoibmpnhkmpaaGreatDoor.Sh
/-
  Digest: the walk of words512.
-/
namespace Go.Proofs.YtndoibmpnhkmpaaGreatDoor.Sh
open Go.RowKit
set_option maxRecDepth 20000

def U64 (x : Int) : Prop := 0 ≤ x ∧ x < 18446744073709551616
def U64s (xs : List Int) : Prop := ∀ x ∈ xs, U64 x
theorem U64s.at {xs : List Int} (h : U64s xs) (i : Nat) : U64 (xs.getD i 0) := by
  by_cases hi : i < xs.length
  · simp [hi]; exact h _ (List.getElem_mem hi)
  · simp [List.getD, List.getElem?_eq_none (Nat.le_of_not_lt hi), U64]
theorem U64s.append {xs ys : List Int} (h : U64s xs) (k : U64s ys) : U64s (xs ++ ys) := by
  intro y hy; rcases List.mem_append.1 hy with hy | hy
  · exact h y hy
  · exact k y hy
def wd64 (bs : List Int) (t : Nat) : Int := wd32 bs (2 * t) * 4294967296 + wd32 bs (2 * t + 1)
theorem wd64_u64 {bs : List Int} (h : U8s bs) (t : Nat) : U64 (wd64 bs t) := by
  have h0 := wd32_u32 h (2 * t); have h1 := wd32_u32 h (2 * t + 1)
  unfold U32 at h0 h1
  unfold wd64 U64; omega
def w512 (bs W : List Int) (t : Nat) : Int :=
  if t < 16 then wd64 bs t else IntKind.u64.wrap (IntKind.u64.wrap (IntKind.u64.wrap (mvd64 (W.getD (t - 2) 0) 19 61 6 + W.getD (t - 7) 0) + mvd64 (W.getD (t - 15) 0) 1 8 7) + W.getD (t - 16) 0)
def sch512 (bs : List Int) : Nat → List Int
  | 0 => []
  | t + 1 => sch512 bs t ++ [w512 bs (sch512 bs t) t]
theorem sch512_len (bs : List Int) (t : Nat) : (sch512 bs t).length = t := by
  induction t with
  | zero => rfl
  | succ t ih => simp [sch512, ih]
theorem u64_wrap (x : Int) : U64 (IntKind.u64.wrap x) := by rw [IntKind.wrap_u64]; exact ⟨Int.emod_nonneg _ (by decide), Int.emod_lt_of_pos _ (by decide)⟩
theorem Tryz.size80q : (Tryz.prog.info? 116).map (·.size) = some 80 := by kernel_rfl
theorem sch512_u64 {bs : List Int} (h : U8s bs) (t : Nat) : U64s (sch512 bs t) := by
  induction t with
  | zero => intro x hx; simp [sch512] at hx
  | succ t ih =>
    refine ih.append (fun x hx => ?_)
    obtain rfl := List.mem_singleton.1 hx
    unfold w512; split
    · exact wd64_u64 h t
    · exact u64_wrap _

theorem moved64_I (x i j k : Int) (w : World) (hx : U64 x) (hi : 1 ≤ i ∧ i ≤ 63) (hj : 1 ≤ j ∧ j ≤ 63) (hk : 0 ≤ k ∧ k ≤ 63) :
    Calls Tryz.prog 150 #[.int .u64 x, .int .i64 i, .int .i64 j, .int .i64 k] w fun e w' => e = .returned (.int .u64 (mvd64 x i.toNat j.toNat k.toNat)) ∧ ∃ q, w' = w.drewN q := by
  obtain ⟨i, rfl⟩ := Int.eq_ofNat_of_zero_le (show 0 ≤ i by omega)
  obtain ⟨j, rfl⟩ := Int.eq_ofNat_of_zero_le (show 0 ≤ j by omega)
  obtain ⟨k, rfl⟩ := Int.eq_ofNat_of_zero_le hk.1
  simp only [Int.toNat_natCast]
  exact moved64_any x hx i j k (by omega) (by omega) (by omega)
theorem or_hi64 (x y : Int) (hx0 : 0 ≤ x) (hx : x < 4294967296) (hy0 : 0 ≤ y) (hy : y < 4294967296) : bits .or .u64 (x * 4294967296) y = x * 4294967296 + y := by
  obtain ⟨a, rfl⟩ := Int.eq_ofNat_of_zero_le hx0
  obtain ⟨b, rfl⟩ := Int.eq_ofNat_of_zero_le hy0
  have e : ((a * 2 ^ 32 : Nat) : Int) = (a : Int) * 4294967296 := by simp
  have ha : a * 2 ^ 32 < 2 ^ 64 := by omega
  have hb : b < 2 ^ 32 := by omega
  have h := (bits_nat .u64 64 (by decide) (fun n h₀ h₁ => by rw [IntKind.wrap_u64]; omega) (a * 2 ^ 32) b ha (by omega)).2
  rw [e] at h
  rw [h, Nat.mul_comm a, ← Nat.two_pow_add_eq_or_of_lt hb a, Nat.mul_comm, Int.natCast_add, e]
theorem word32_I {w : World} (b off len c : Nat) (bs : List Int) (t : Int) (hr : Rd .u8 w b off bs) (ub : U8s bs) (hlen : bs.length ≤ len) (hlc : len ≤ c) (ht0 : 0 ≤ t) (ht : 4 * t + 4 ≤ bs.length) (hc : bs.length ≤ 1024) :
    Calls Tryz.prog 148 #[.slice (some ⟨b, off, none⟩) len c, .int .i64 t] w fun e w' => e = .returned (.int .u32 (wd32 bs t.toNat)) ∧ ∃ q, w' = w.drewN q := by
  obtain ⟨t, rfl⟩ := Int.eq_ofNat_of_zero_le ht0
  rw [Int.toNat_natCast]
  exact word32_any b off len c bs hr ub t hlen hlc (by omega) hc
set_option maxHeartbeats 500000 in
theorem words512_any {w : World} (b off len c : Nat) (bs : List Int) (hb : b < w.heap.size) (hr : Rd .u8 w b off bs) (ub : U8s bs) (hlen : bs.length ≤ len) (hlc : len ≤ c) (hbs : bs.length = 128) :
    Calls Tryz.prog 142 #[.slice (some ⟨b, off, none⟩) len c] w fun e w' => e = .returned (.agg ((sch512 bs 80).map (Value.int .u64)).toArray) ∧ Below w.heap.size w w' := by
  go_enter Tryz.func142, Tryz.ntmps142
  go_wp2
  go_loopw [5] (fun iv wr => ∃ t : Nat, iv = .int .i64 t ∧ t ≤ 80 ∧ Arr .u64 116 wr (w.heap.size + 1) (sch512 bs t ++ List.replicate (80 - t) 0) ∧ Arr .u64 116 wr w.heap.size (List.replicate 80 0) ∧ Below w.heap.size w wr) (fun iv _ => 80 - (intOf iv).toNat)
  case atStart =>
    refine ⟨0, rfl, by omega, ?_, ?_, ((Below.refl _ _).alloc (Nat.le_refl _) _).alloc (by simp) _⟩
    · unfold Arr; rw [show w.heap.size + 1 = (w.alloc _).heap.size by simp, heap_alloc_new]; rfl
    · unfold Arr; rw [Below.heap_alloc _ _ _ (by simp), heap_alloc_new]; rfl
  case round =>
    obtain ⟨t, rfl, ht, hA, hZ, hBt⟩ := hrel
    by_cases hlt : t < 80
    · have hl : (sch512 bs t ++ List.replicate (80 - t) 0).length = 80 := by simp [sch512_len]; omega
      have hset : ∀ x, x = w512 bs (sch512 bs t) t → (sch512 bs t ++ List.replicate (80 - t) 0).set t x = sch512 bs (t + 1) ++ List.replicate (80 - (t + 1)) 0 := fun x hx => by
        have h1 := sch512_len bs t
        rw [List.set_append_right _ _ (by omega), h1, Nat.sub_self, show 80 - t = (80 - (t + 1)) + 1 by omega, List.replicate_succ, List.set_cons_zero, hx]
        simp [sch512]
      have hco := hA.cell t (by omega)
      obtain ⟨o, ho⟩ : ∃ o, (sch512 bs t ++ List.replicate (80 - t) 0).getD t 0 = o := ⟨_, rfl⟩
      rw [ho] at hco
      have hfo := hA.frozen t
      have HH : Hid (Arr .u64 116 wr (w.heap.size + 1) (sch512 bs t ++ List.replicate (80 - t) 0) ∧ Arr .u64 116 wr w.heap.size (List.replicate 80 0) ∧ Below w.heap.size w wr ∧ ∀ x, x = w512 bs (sch512 bs t) t → (sch512 bs t ++ List.replicate (80 - t) 0).set t x = sch512 bs (t + 1) ++ List.replicate (80 - (t + 1)) 0) := ⟨hA, hZ, hBt, hset⟩
      by_cases h16 : t < 16
      · have HR : Hid (Rd .u8 wr b off bs) := below_rd hBt hb hr
        have hb1 := wd32_u32 ub (2 * t)
        have hb2 := wd32_u32 ub (2 * t + 1)
        obtain ⟨y0, g0⟩ : ∃ y, wd32 bs (2 * t) = y := ⟨_, rfl⟩
        obtain ⟨y1, g1⟩ : ∃ y, wd32 bs (2 * t + 1) = y := ⟨_, rfl⟩
        rw [g0] at hb1; rw [g1] at hb2
        obtain ⟨p0, p1⟩ := hb1
        obtain ⟨p2, p3⟩ := hb2
        have HV : Hid (y0 * 4294967296 + y1 = w512 bs (sch512 bs t) t) := by unfold w512 wd64; rw [if_pos h16, g0, g1]; rfl
        have HG : Hid (wd32 bs (2 * (t : Int)).toNat = y0 ∧ wd32 bs (2 * (t : Int) + 1).toNat = y1) := ⟨by rw [show (2 * (t : Int)).toNat = 2 * t by omega]; exact g0, by rw [show (2 * (t : Int) + 1).toNat = 2 * t + 1 by omega]; exact g1⟩
        have HO : Hid (bits .or .u64 (y0 * 4294967296) y1 = y0 * 4294967296 + y1) := or_hi64 y0 y1 p0 p1 p2 p3
        clear hA hZ hBt hset ho hl g0 g1
        go_wp2_with (first
          | (go_at_call 148; replace k1 := k1; refine (word32_I b off len c bs _ (by exact HR.out) ub hlen hlc (by omega) (by omega) (by omega)).mono ?_; rintro e w' ⟨rfl, q, rfl⟩; rw [HG.out.2])
          | (go_at_call 148; refine (word32_I b off len c bs _ (by exact HR.out) ub hlen hlc (by omega) (by omega) (by omega)).mono ?_; rintro e w' ⟨rfl, q', rfl⟩; rw [HG.out.1]; have k1 := trivial))
        rw [HO.out]
        obtain ⟨hA, hZ, hBt, hset⟩ := HH.out
        refine ⟨⟨t + 1, by go_num, by omega, ?_, ?_, ?_⟩, by simp [intOf]; omega⟩
        · have h1 : Arr .u64 116 (wr.drewN (q' + q)) (w.heap.size + 1) _ := hA
          have := h1.set t (y0 * 4294967296 + y1); rw [hset _ HV.out] at this; exact this
        · have h1 : Arr .u64 116 (wr.drewN (q' + q)) w.heap.size _ := hZ
          exact (Upd.set _ (w.heap.size + 1) t _).arr h1 (by omega)
        · exact Below.setCell (w := wr.drewN (q' + q)) (p := ⟨w.heap.size + 1, t, none⟩) (hBt.trans ⟨rfl, rfl, rfl, Nat.le_refl _, fun _ _ => rfl⟩) (show w.heap.size ≤ w.heap.size + 1 by omega) _
      · have hget : ∀ j, j < t → (sch512 bs t ++ List.replicate (80 - t) 0).getD j 0 = (sch512 bs t).getD j 0 := fun j hj => by
          rw [List.getD_eq_getElem?_getD, List.getElem?_append_left (by rw [sch512_len]; exact hj), ← List.getD_eq_getElem?_getD]
        obtain ⟨x2, e2⟩ : ∃ x, (sch512 bs t).getD (t - 2) 0 = x := ⟨_, rfl⟩
        obtain ⟨x7, e7⟩ : ∃ x, (sch512 bs t).getD (t - 7) 0 = x := ⟨_, rfl⟩
        obtain ⟨x15, e15⟩ : ∃ x, (sch512 bs t).getD (t - 15) 0 = x := ⟨_, rfl⟩
        obtain ⟨x16, e16⟩ : ∃ x, (sch512 bs t).getD (t - 16) 0 = x := ⟨_, rfl⟩
        have u2 : Hid (U64 x2) := e2 ▸ (sch512_u64 ub _).at _
        have u15 : Hid (U64 x15) := e15 ▸ (sch512_u64 ub _).at _
        have c2 : wr.cell? ⟨w.heap.size + 1, t - 2, none⟩ = some (.int .u64 x2) := by rw [hA.cell (t - 2) (by omega), hget _ (by omega), e2]
        have c7 : wr.cell? ⟨w.heap.size + 1, t - 7, none⟩ = some (.int .u64 x7) := by rw [hA.cell (t - 7) (by omega), hget _ (by omega), e7]
        have c15 : wr.cell? ⟨w.heap.size + 1, t - 15, none⟩ = some (.int .u64 x15) := by rw [hA.cell (t - 15) (by omega), hget _ (by omega), e15]
        have c16 : wr.cell? ⟨w.heap.size + 1, t - 16, none⟩ = some (.int .u64 x16) := by rw [hA.cell (t - 16) (by omega), hget _ (by omega), e16]
        have HV : Hid (IntKind.u64.wrap (IntKind.u64.wrap (IntKind.u64.wrap (mvd64 x2 19 61 6 + x7) + mvd64 x15 1 8 7) + x16) = w512 bs (sch512 bs t) t) := by
          unfold w512; rw [if_neg h16, e2, e7, e15, e16]; rfl
        clear hA hZ hBt hset ho hl e2 e7 e15 e16 hget
        go_upto_region 7 with (fail)
        refine wp_region_qsd 23 (by kernel_rfl) (by kernel_rfl) ?_
        simp only [List.take_succ_cons, List.take_zero, List.drop_succ_cons, List.drop_zero]
        repeat (go_big_quiet_step ((go_at_call 150; exact Calls.quiet_of (moved64_I _ _ _ _ _ (by first | exact u2.out | exact u15.out) (by omega) (by omega) (by omega)))))
        refine wpQuiet_nil ?_
        rintro _ ⟨q, rfl⟩
        go_wp2
        go_roundw
        case rel =>
          obtain ⟨hA, hZ, hBt, hset⟩ := HH.out
          refine ⟨t + 1, by go_num, by omega, ?_, ?_, ?_⟩
          · have h1 : Arr .u64 116 (wr.drewN q) (w.heap.size + 1) _ := hA
            have := h1.set t (w512 bs (sch512 bs t) t); rw [hset _ rfl, ← HV.out] at this; exact this
          · have h1 : Arr .u64 116 (wr.drewN q) w.heap.size _ := hZ
            exact (Upd.set _ (w.heap.size + 1) t _).arr h1 (by omega)
          · exact Below.setCell (w := wr.drewN q) (p := ⟨w.heap.size + 1, t, none⟩) (hBt.trans ⟨rfl, rfl, rfl, Nat.le_refl _, fun _ _ => rfl⟩) (show w.heap.size ≤ w.heap.size + 1 by omega) _
        case measure => simp [intOf]; omega
    · obtain rfl : t = 80 := by omega
      have hA' : Blk 116 wr (w.heap.size + 1) ((sch512 bs 80).map (Value.int .u64)) := by simpa using hA.blk
      have hlen : ((sch512 bs 80).map (Value.int .u64)).length = 80 := by simp [sch512_len]
      have hsz : (Tryz.prog.info? 116).map (·.size) = some ((sch512 bs 80).map (Value.int .u64)).length := by rw [hlen]; exact Tryz.size80q
      have hone := ints_one .u64 (sch512 bs 80)
      have hZl : (List.replicate 80 (0 : Int)).length = 80 := by simp
      obtain ⟨cs, hcs⟩ : ∃ cs, (sch512 bs 80).map (Value.int .u64) = cs := ⟨_, rfl⟩
      rw [hcs] at hA' hlen hsz hone
      have HC : Hid ((sch512 bs 80).map (Value.int .u64) = cs) := hcs
      clear hcs
      have hZb := hZ.blk
      have HF : Hid (Blk 116 (wr.setCells w.heap.size 0 cs) w.heap.size cs ∧ Below w.heap.size w (wr.setCells w.heap.size 0 cs)) := ⟨hZb.fill cs (by simp [hlen]), (Upd.setCells cs 0 wr).below hBt hBt.size (Nat.le_refl _)⟩
      have hth : wr.there w.heap.size 0 cs.toArray.size := hZb.there 0 _ (by simp [hlen])
      have hrg := hA'.whole
      have HA : Hid (wr.rangeAt (w.heap.size + 1) 0 cs ∧ wr.there w.heap.size 0 cs.toArray.size) := ⟨hrg, hth⟩
      have HS : Hid ((Tryz.prog.info? 116).map (·.size) = some cs.length) := hsz
      have HO : Hid (cs.toArray.all (·.oneCell') = true) := hone
      clear hA hZ hBt hA' hlen hsz hone hZl hZb hth hrg
      go_wp2_with (first
        | (refine wpList_load_mid rfl _ _ rfl (w.heap.size + 1) 0 rfl cs _ HA.out.1 Tryz.underlying116 rfl HS.out ?_)
        | (refine wpList_store_mid rfl _ _ _ rfl w.heap.size 0 cs.toArray rfl rfl HA.out.2 (by simpa using HS.out) HO.out ?_))
      refine bodyPost_ret (v := .agg cs.toArray) (results_blk (b := w.heap.size) (cs := cs) rfl rfl HF.out.1 Tryz.underlying116 rfl HS.out) rfl ⟨by rw [HC.out], HF.out.2⟩
end Go.Proofs.YtndoibmpnhkmpaaGreatDoor.Sh
