/-
  Digest: the walk of words512.
-/
import Derived.Test.YtjmiaakfdclfjaaGreatDoorK16
namespace Go.Proofs.YtjmiaakfdclfjaaGreatDoor.Sh
open Go.RowKit
set_option maxRecDepth 20000

def U64 (x : Int) : Prop := 0 ≤ x ∧ x < 18446744073709551616
def U64s (xs : List Int) : Prop := ∀ x ∈ xs, U64 x
theorem U64s.at {xs : List Int} (h : U64s xs) (i : Nat) : U64 (xs.getD i 0) := by
  by_cases hi : i < xs.length
  · simp [hi]; exact h _ (List.getElem_mem hi)
  · simp [List.getD, List.getElem?_eq_none (Nat.le_of_not_lt hi), U64]
theorem U64s.append {xs ys : List Int} (h : U64s xs) (k : U64s ys) : U64s (xs ++ ys) := by
  intro y hy; rcases List.mem_append.1 hy with hy | hy
  · exact h y hy
  · exact k y hy
def wd64 (bs : List Int) (t : Nat) : Int := wd32 bs (2 * t) * 4294967296 + wd32 bs (2 * t + 1)
theorem wd64_u64 {bs : List Int} (h : U8s bs) (t : Nat) : U64 (wd64 bs t) := by
  have h0 := wd32_u32 h (2 * t); have h1 := wd32_u32 h (2 * t + 1)
  unfold U32 at h0 h1
  unfold wd64 U64; omega
def w512 (bs W : List Int) (t : Nat) : Int :=
  if t < 16 then wd64 bs t else IntKind.u64.wrap (IntKind.u64.wrap (IntKind.u64.wrap (mvd64 (W.getD (t - 2) 0) 19 61 6 + W.getD (t - 7) 0) + mvd64 (W.getD (t - 15) 0) 1 8 7) + W.getD (t - 16) 0)
def sch512 (bs : List Int) : Nat → List Int
  | 0 => []
  | t + 1 => sch512 bs t ++ [w512 bs (sch512 bs t) t]
theorem sch512_len (bs : List Int) (t : Nat) : (sch512 bs t).length = t := by
  induction t with
  | zero => rfl
  | succ t ih => simp [sch512, ih]
theorem u64_wrap (x : Int) : U64 (IntKind.u64.wrap x) := by rw [IntKind.wrap_u64]; exact ⟨Int.emod_nonneg _ (by decide), Int.emod_lt_of_pos _ (by decide)⟩
theorem Tryz.size80q : (Tryz.prog.info? 70).map (·.size) = some 80 := by kernel_rfl
theorem sch512_u64 {bs : List Int} (h : U8s bs) (t : Nat) : U64s (sch512 bs t) := by
  induction t with
  | zero => intro x hx; simp [sch512] at hx
  | succ t ih =>
    refine ih.append (fun x hx => ?_)
    obtain rfl := List.mem_singleton.1 hx
    unfold w512; split
    · exact wd64_u64 h t
    · exact u64_wrap _

theorem moved64_I (x i j k : Int) (w : World) (hx : U64 x) (hi : 1 ≤ i ∧ i ≤ 63) (hj : 1 ≤ j ∧ j ≤ 63) (hk : 0 ≤ k ∧ k ≤ 63) :
    Calls Tryz.prog 120 #[.int .u64 x, .int .i64 i, .int .i64 j, .int .i64 k] w fun e w' => e = .returned (.int .u64 (mvd64 x i.toNat j.toNat k.toNat)) ∧ ∃ q, w' = w.drewN q := by
  obtain ⟨i, rfl⟩ := Int.eq_ofNat_of_zero_le (show 0 ≤ i by omega)
  obtain ⟨j, rfl⟩ := Int.eq_ofNat_of_zero_le (show 0 ≤ j by omega)
  obtain ⟨k, rfl⟩ := Int.eq_ofNat_of_zero_le hk.1
  simp only [Int.toNat_natCast]
  exact moved64_any x hx i j k (by omega) (by omega) (by omega)
theorem or_hi64 (x y : Int) (hx0 : 0 ≤ x) (hx : x < 4294967296) (hy0 : 0 ≤ y) (hy : y < 4294967296) : bits .or .u64 (x * 4294967296) y = x * 4294967296 + y := by
  obtain ⟨a, rfl⟩ := Int.eq_ofNat_of_zero_le hx0
  obtain ⟨b, rfl⟩ := Int.eq_ofNat_of_zero_le hy0
  have e : ((a * 2 ^ 32 : Nat) : Int) = (a : Int) * 4294967296 := by simp
  have ha : a * 2 ^ 32 < 2 ^ 64 := by omega
  have hb : b < 2 ^ 32 := by omega
  have h := (bits_nat .u64 64 (by decide) (fun n h₀ h₁ => by rw [IntKind.wrap_u64]; omega) (a * 2 ^ 32) b ha (by omega)).2
  rw [e] at h
  rw [h, Nat.mul_comm a, ← Nat.two_pow_add_eq_or_of_lt hb a, Nat.mul_comm, Int.natCast_add, e]
theorem word32_I {w : World} (b off len c : Nat) (bs : List Int) (t : Int) (hr : Rd .u8 w b off bs) (ub : U8s bs) (hlen : bs.length ≤ len) (hlc : len ≤ c) (ht0 : 0 ≤ t) (ht : 4 * t + 4 ≤ bs.length) (hc : bs.length ≤ 1024) :
    Calls Tryz.prog 118 #[.slice (some ⟨b, off, none⟩) len c, .int .i64 t] w fun e w' => e = .returned (.int .u32 (wd32 bs t.toNat)) ∧ ∃ q, w' = w.drewN q := by
  obtain ⟨t, rfl⟩ := Int.eq_ofNat_of_zero_le ht0
  rw [Int.toNat_natCast]
  exact word32_any b off len c bs hr ub t hlen hlc (by omega) hc
set_option maxHeartbeats 500000 in
theorem words512_any {w : World} (b off len c : Nat) (bs : List Int) (hb : b < w.heap.size) (hr : Rd .u8 w b off bs) (ub : U8s bs) (hlen : bs.length ≤ len) (hlc : len ≤ c) (hbs : bs.length = 128) :
    Calls Tryz.prog 113 #[.slice (some ⟨b, off, none⟩) len c] w fun e w' => e = .returned (.agg ((sch512 bs 80).map (Value.int .u64)).toArray) ∧ Below w.heap.size w w' := by
  go_enter Tryz.func113, Tryz.ntmps113
  go_wp2
  go_loopw [5] (fun iv wr => ∃ t : Nat, iv = .int .i64 t ∧ t ≤ 80 ∧ Arr .u64 70 wr (w.heap.size + 1) (sch512 bs t ++ List.replicate (80 - t) 0) ∧ Arr .u64 70 wr w.heap.size (List.replicate 80 0) ∧ Below w.heap.size w wr) (fun iv _ => 80 - (intOf iv).toNat)
  case atStart =>
    refine ⟨0, rfl, by omega, ?_, ?_, ((Below.refl _ _).alloc (Nat.le_refl _) _).alloc (by simp) _⟩
    · unfold Arr; rw [show w.heap.size + 1 = (w.alloc _).heap.size by simp, heap_alloc_new]; rfl
    · unfold Arr; rw [Below.heap_alloc _ _ _ (by simp), heap_alloc_new]; rfl
  case round =>
    obtain ⟨t, rfl, ht, hA, hZ, hBt⟩ := hrel
    by_cases hlt : t < 80
    · have hl : (sch512 bs t ++ List.replicate (80 - t) 0).length = 80 := by simp [sch512_len]; omega
      have hset : ∀ x, x = w512 bs (sch512 bs t) t → (sch512 bs t ++ List.replicate (80 - t) 0).set t x = sch512 bs (t + 1) ++ List.replicate (80 - (t + 1)) 0 := fun x hx => by
        have h1 := sch512_len bs t
        rw [List.set_append_right _ _ (by omega), h1, Nat.sub_self, show 80 - t = (80 - (t + 1)) + 1 by omega, List.replicate_succ, List.set_cons_zero, hx]
        simp [sch512]
      have hco := hA.cell t (by omega)
      obtain ⟨o, ho⟩ : ∃ o, (sch512 bs t ++ List.replicate (80 - t) 0).getD t 0 = o := ⟨_, rfl⟩
      rw [ho] at hco
      have hfo := hA.frozen t
      have HH : Hid (Arr .u64 70 wr (w.heap.size + 1) (sch512 bs t ++ List.replicate (80 - t) 0) ∧ Arr .u64 70 wr w.heap.size (List.replicate 80 0) ∧ Below w.heap.size w wr ∧ ∀ x, x = w512 bs (sch512 bs t) t → (sch512 bs t ++ List.replicate (80 - t) 0).set t x = sch512 bs (t + 1) ++ List.replicate (80 - (t + 1)) 0) := ⟨hA, hZ, hBt, hset⟩
      by_cases h16 : t < 16
      · have HR : Hid (Rd .u8 wr b off bs) := below_rd hBt hb hr
        have hb1 := wd32_u32 ub (2 * t)
        have hb2 := wd32_u32 ub (2 * t + 1)
        obtain ⟨y0, g0⟩ : ∃ y, wd32 bs (2 * t) = y := ⟨_, rfl⟩
        obtain ⟨y1, g1⟩ : ∃ y, wd32 bs (2 * t + 1) = y := ⟨_, rfl⟩
        rw [g0] at hb1; rw [g1] at hb2
        obtain ⟨p0, p1⟩ := hb1
        obtain ⟨p2, p3⟩ := hb2
        have HV : Hid (y0 * 4294967296 + y1 = w512 bs (sch512 bs t) t) := by unfold w512 wd64; rw [if_pos h16, g0, g1]; rfl
        have HG : Hid (wd32 bs (2 * (t : Int)).toNat = y0 ∧ wd32 bs (2 * (t : Int) + 1).toNat = y1) := ⟨by rw [show (2 * (t : Int)).toNat = 2 * t by omega]; exact g0, by rw [show (2 * (t : Int) + 1).toNat = 2 * t + 1 by omega]; exact g1⟩
        have HO : Hid (bits .or .u64 (y0 * 4294967296) y1 = y0 * 4294967296 + y1) := or_hi64 y0 y1 p0 p1 p2 p3
        clear hA hZ hBt hset ho hl g0 g1
        go_wp2_with (first
          | (go_at_call 118; replace k1 := k1; refine (word32_I b off len c bs _ (by exact HR.out) ub hlen hlc (by omega) (by omega) (by omega)).mono ?_; rintro e w' ⟨rfl, q, rfl⟩; rw [HG.out.2])
          | (go_at_call 118; refine (word32_I b off len c bs _ (by exact HR.out) ub hlen hlc (by omega) (by omega) (by omega)).mono ?_; rintro e w' ⟨rfl, q', rfl⟩; rw [HG.out.1]; have k1 := trivial))
        rw [HO.out]
        obtain ⟨hA, hZ, hBt, hset⟩ := HH.out
        refine ⟨⟨t + 1, by go_num, by omega, ?_, ?_, ?_⟩, by simp [intOf]; omega⟩
        · have h1 : Arr .u64 70 (wr.drewN (q' + q)) (w.heap.size + 1) _ := hA
          have := h1.set t (y0 * 4294967296 + y1); rw [hset _ HV.out] at this; exact this
        · have h1 : Arr .u64 70 (wr.drewN (q' + q)) w.heap.size _ := hZ
          exact (Upd.set _ (w.heap.size + 1) t _).arr h1 (by omega)
        · exact Below.setCell (w := wr.drewN (q' + q)) (p := ⟨w.heap.size + 1, t, none⟩) (hBt.trans ⟨rfl, rfl, rfl, Nat.le_refl _, fun _ _ => rfl⟩) (show w.heap.size ≤ w.heap.size + 1 by omega) _
      · have hget : ∀ j, j < t → (sch512 bs t ++ List.replicate (80 - t) 0).getD j 0 = (sch512 bs t).getD j 0 := fun j hj => by
          rw [List.getD_eq_getElem?_getD, List.getElem?_append_left (by rw [sch512_len]; exact hj), ← List.getD_eq_getElem?_getD]
        obtain ⟨x2, e2⟩ : ∃ x, (sch512 bs t).getD (t - 2) 0 = x := ⟨_, rfl⟩
        obtain ⟨x7, e7⟩ : ∃ x, (sch512 bs t).getD (t - 7) 0 = x := ⟨_, rfl⟩
        obtain ⟨x15, e15⟩ : ∃ x, (sch512 bs t).getD (t - 15) 0 = x := ⟨_, rfl⟩
        obtain ⟨x16, e16⟩ : ∃ x, (sch512 bs t).getD (t - 16) 0 = x := ⟨_, rfl⟩
        have u2 : Hid (U64 x2) := e2 ▸ (sch512_u64 ub _).at _
        have u15 : Hid (U64 x15) := e15 ▸ (sch512_u64 ub _).at _
        have c2 : wr.cell? ⟨w.heap.size + 1, t - 2, none⟩ = some (.int .u64 x2) := by rw [hA.cell (t - 2) (by omega), hget _ (by omega), e2]
        have c7 : wr.cell? ⟨w.heap.size + 1, t - 7, none⟩ = some (.int .u64 x7) := by rw [hA.cell (t - 7) (by omega), hget _ (by omega), e7]
        have c15 : wr.cell? ⟨w.heap.size + 1, t - 15, none⟩ = some (.int .u64 x15) := by rw [hA.cell (t - 15) (by omega), hget _ (by omega), e15]
        have c16 : wr.cell? ⟨w.heap.size + 1, t - 16, none⟩ = some (.int .u64 x16) := by rw [hA.cell (t - 16) (by omega), hget _ (by omega), e16]
        have HV : Hid (IntKind.u64.wrap (IntKind.u64.wrap (IntKind.u64.wrap (mvd64 x2 19 61 6 + x7) + mvd64 x15 1 8 7) + x16) = w512 bs (sch512 bs t) t) := by
          unfold w512; rw [if_neg h16, e2, e7, e15, e16]; rfl
        clear hA hZ hBt hset ho hl e2 e7 e15 e16 hget
        go_upto_region 7 with (fail)
        refine wp_region_qsd 23 (by kernel_rfl) (by kernel_rfl) ?_
        simp only [List.take_succ_cons, List.take_zero, List.drop_succ_cons, List.drop_zero]
        repeat (go_big_quiet_step ((go_at_call 120; exact Calls.quiet_of (moved64_I _ _ _ _ _ (by first | exact u2.out | exact u15.out) (by omega) (by omega) (by omega)))))
        refine wpQuiet_nil ?_
        rintro _ ⟨q, rfl⟩
        go_wp2
        go_roundw
        case rel =>
          obtain ⟨hA, hZ, hBt, hset⟩ := HH.out
          refine ⟨t + 1, by go_num, by omega, ?_, ?_, ?_⟩
          · have h1 : Arr .u64 70 (wr.drewN q) (w.heap.size + 1) _ := hA
            have := h1.set t (w512 bs (sch512 bs t) t); rw [hset _ rfl, ← HV.out] at this; exact this
          · have h1 : Arr .u64 70 (wr.drewN q) w.heap.size _ := hZ
            exact (Upd.set _ (w.heap.size + 1) t _).arr h1 (by omega)
          · exact Below.setCell (w := wr.drewN q) (p := ⟨w.heap.size + 1, t, none⟩) (hBt.trans ⟨rfl, rfl, rfl, Nat.le_refl _, fun _ _ => rfl⟩) (show w.heap.size ≤ w.heap.size + 1 by omega) _
        case measure => simp [intOf]; omega
    · obtain rfl : t = 80 := by omega
      have hA' : Blk 70 wr (w.heap.size + 1) ((sch512 bs 80).map (Value.int .u64)) := by simpa using hA.blk
      have hlen : ((sch512 bs 80).map (Value.int .u64)).length = 80 := by simp [sch512_len]
      have hsz : (Tryz.prog.info? 70).map (·.size) = some ((sch512 bs 80).map (Value.int .u64)).length := by rw [hlen]; exact Tryz.size80q
      have hone := ints_one .u64 (sch512 bs 80)
      have hZl : (List.replicate 80 (0 : Int)).length = 80 := by simp
      obtain ⟨cs, hcs⟩ : ∃ cs, (sch512 bs 80).map (Value.int .u64) = cs := ⟨_, rfl⟩
      rw [hcs] at hA' hlen hsz hone
      have HC : Hid ((sch512 bs 80).map (Value.int .u64) = cs) := hcs
      clear hcs
      have hZb := hZ.blk
      have HF : Hid (Blk 70 (wr.setCells w.heap.size 0 cs) w.heap.size cs ∧ Below w.heap.size w (wr.setCells w.heap.size 0 cs)) := ⟨hZb.fill cs (by simp [hlen]), (Upd.setCells cs 0 wr).below hBt hBt.size (Nat.le_refl _)⟩
      have hth : wr.there w.heap.size 0 cs.toArray.size := hZb.there 0 _ (by simp [hlen])
      have hrg := hA'.whole
      have HA : Hid (wr.rangeAt (w.heap.size + 1) 0 cs ∧ wr.there w.heap.size 0 cs.toArray.size) := ⟨hrg, hth⟩
      have HS : Hid ((Tryz.prog.info? 70).map (·.size) = some cs.length) := hsz
      have HO : Hid (cs.toArray.all (·.oneCell') = true) := hone
      clear hA hZ hBt hA' hlen hsz hone hZl hZb hth hrg
      go_wp2_with (first
        | (refine wpList_load_mid rfl _ _ rfl (w.heap.size + 1) 0 rfl cs _ HA.out.1 Tryz.underlying70 rfl HS.out ?_)
        | (refine wpList_store_mid rfl _ _ _ rfl w.heap.size 0 cs.toArray rfl rfl HA.out.2 (by simpa using HS.out) HO.out ?_))
      refine bodyPost_ret (v := .agg cs.toArray) (results_blk (b := w.heap.size) (cs := cs) rfl rfl HF.out.1 Tryz.underlying70 rfl HS.out) rfl ⟨by rw [HC.out], HF.out.2⟩
end Go.Proofs.YtjmiaakfdclfjaaGreatDoor.Sh
/-
  Digest: choose1; the tables; the steps of the three digests as Lean functions.
-/
namespace Go.Proofs.YtjmiaakfdclfjaaGreatDoor.Sh
open Go.RowKit
set_option maxRecDepth 20000
def ch1 (q : Nat) (b c d : Int) : Int :=
  match q with
  | 0 => bits .or .u32 (bits .and .u32 b c) (bits .and .u32 (bits .xor .u32 IntKind.u32.max b) d)
  | 2 => bits .or .u32 (bits .or .u32 (bits .and .u32 b c) (bits .and .u32 b d)) (bits .and .u32 c d)
  | _ => bits .xor .u32 (bits .xor .u32 b c) d
set_option maxHeartbeats 500000 in
theorem choose1_any {w : World} (t : Nat) (b c d : Int) (ht : t < 80) (hb : U32 b) (hc : U32 c) (hd : U32 d) :
    Calls Tryz.prog 110 #[.int .i64 t, .int .u32 b, .int .u32 c, .int .u32 d] w fun e w' => e = .returned (.int .u32 (ch1 (t / 20) b c d)) ∧ w' = w := by
  obtain ⟨b0, b1⟩ := hb
  obtain ⟨c0, c1⟩ := hc
  obtain ⟨d0, d1⟩ := hd
  obtain ⟨q, hq⟩ : ∃ q : Nat, t / 20 = q := ⟨_, rfl⟩
  have HQ : Hid (t / 20 = q) := hq
  have hq' : ((t : Int) / 20) = q := by omega
  have hq3 : q = 0 ∨ q = 1 ∨ q = 2 ∨ q = 3 := by omega
  clear hq
  go_enter Tryz.func110, Tryz.ntmps110
  rcases hq3 with rfl | rfl | rfl | rfl <;> go_wp2
  all_goals go_ret
  all_goals exact ⟨by rw [HQ.out]; rfl, rfl⟩
def first1L : List Int := [1732584193, 4023233417, 2562383102, 271733878, 3285377520, 0, 0, 0]
def adds1L : List Int := [1518500249, 1859775393, 2400959708, 3395469782]
def first256L : List Int := [1779033703, 3144134277, 1013904242, 2773480762, 1359893119, 2600822924, 528734635, 1541459225]
def first384L : List Int := [14680500436340154072, 7105036623409894663, 10473403895298186519, 1526699215303891257, 7436329637833083697, 10282925794625328401, 15784041429090275239, 5167115440072839076]
def first512L : List Int := [7640891576956012808, 13503953896175478587, 4354685564936845355, 11912009170470909681, 5840696475078001361, 11170449401992604703, 2270897969802886507, 6620516959819538809]
def adds256L : List Int := [1116352408, 1899447441, 3049323471, 3921009573, 961987163, 1508970993, 2453635748, 2870763221, 3624381080, 310598401, 607225278, 1426881987, 1925078388, 2162078206, 2614888103, 3248222580, 3835390401, 4022224774, 264347078, 604807628, 770255983, 1249150122, 1555081692, 1996064986, 2554220882, 2821834349, 2952996808, 3210313671, 3336571891, 3584528711, 113926993, 338241895, 666307205, 773529912, 1294757372, 1396182291, 1695183700, 1986661051, 2177026350, 2456956037, 2730485921, 2820302411, 3259730800, 3345764771, 3516065817, 3600352804, 4094571909, 275423344, 430227734, 506948616, 659060556, 883997877, 958139571, 1322822218, 1537002063, 1747873779, 1955562222, 2024104815, 2227730452, 2361852424, 2428436474, 2756734187, 3204031479, 3329325298]
def adds512L : List Int := [4794697086780616226, 8158064640168781261, 13096744586834688815, 16840607885511220156, 4131703408338449720, 6480981068601479193, 10538285296894168987, 12329834152419229976, 15566598209576043074, 1334009975649890238, 2608012711638119052, 6128411473006802146, 8268148722764581231, 9286055187155687089, 11230858885718282805, 13951009754708518548, 16472876342353939154, 17275323862435702243, 1135362057144423861, 2597628984639134821, 3308224258029322869, 5365058923640841347, 6679025012923562964, 8573033837759648693, 10970295158949994411, 12119686244451234320, 12683024718118986047, 13788192230050041572, 14330467153632333762, 15395433587784984357, 489312712824947311, 1452737877330783856, 2861767655752347644, 3322285676063803686, 5560940570517711597, 5996557281743188959, 7280758554555802590, 8532644243296465576, 9350256976987008742, 10552545826968843579, 11727347734174303076, 12113106623233404929, 14000437183269869457, 14369950271660146224, 15101387698204529176, 15463397548674623760, 17586052441742319658, 1182934255886127544, 1847814050463011016, 2177327727835720531, 2830643537854262169, 3796741975233480872, 4115178125766777443, 5681478168544905931, 6601373596472566643, 7507060721942968483, 8399075790359081724, 8693463985226723168, 9568029438360202098, 10144078919501101548, 10430055236837252648, 11840083180663258601, 13761210420658862357, 14299343276471374635, 14566680578165727644, 15097957966210449927, 16922976911328602910, 17689382322260857208, 500013540394364858, 748580250866718886, 1242879168328830382, 1977374033974150939, 2944078676154940804, 3659926193048069267, 4368137639120453308, 4836135668995329356, 5532061633213252278, 6448918945643986474, 6902733635092675308, 7801388544844847127]
/-- The package's tables lie where they lie, and hold what they hold. -/
structure Tabs (w : World) : Prop where
  size : 8 ≤ w.heap.size
  f1 : Rd .u32 w 0 0 first1L
  f256 : Rd .u32 w 1 0 first256L
  f384 : Rd .u64 w 2 0 first384L
  f512 : Rd .u64 w 3 0 first512L
  a1 : Rd .u32 w 5 0 adds1L
  a256 : Rd .u32 w 6 0 adds256L
  a512 : Rd .u64 w 7 0 adds512L
theorem Tabs.below {w w' : World} (h : Tabs w) (hb : Below w.heap.size w w') : Tabs w' := by
  have hs := h.size
  have hz := hb.size
  exact ⟨by omega, below_rd hb (by omega) h.f1, below_rd hb (by omega) h.f256, below_rd hb (by omega) h.f384, below_rd hb (by omega) h.f512, below_rd hb (by omega) h.a1, below_rd hb (by omega) h.a256, below_rd hb (by omega) h.a512⟩
theorem Tabs.upd {w w' : World} {b : Nat} (h : Tabs w) (hu : Upd w w' b) (hb : 8 ≤ b) : Tabs w' := by
  have hs := h.size
  have hz := hu.size
  exact ⟨by omega, hu.rd (by omega) h.f1 (by omega), hu.rd (by omega) h.f256 (by omega), hu.rd (by omega) h.f384 (by omega), hu.rd (by omega) h.f512 (by omega), hu.rd (by omega) h.a1 (by omega), hu.rd (by omega) h.a256 (by omega), hu.rd (by omega) h.a512 (by omega)⟩
/-- Five words; eight words. -/
structure R5 where
  a : Int
  b : Int
  c : Int
  d : Int
  e : Int
structure R8 where
  a : Int
  b : Int
  c : Int
  d : Int
  e : Int
  f : Int
  g : Int
  h : Int
def R5.ok (r : R5) : Prop := U32 r.a ∧ U32 r.b ∧ U32 r.c ∧ U32 r.d ∧ U32 r.e
def R8.ok (U : Int → Prop) (r : R8) : Prop := U r.a ∧ U r.b ∧ U r.c ∧ U r.d ∧ U r.e ∧ U r.f ∧ U r.g ∧ U r.h
def R8.list (r : R8) : List Int := [r.a, r.b, r.c, r.d, r.e, r.f, r.g, r.h]
def stp1 (W : List Int) (t : Nat) (r : R5) : R5 :=
  ⟨(rot32 r.a 5 + ch1 (t / 20) r.b r.c r.d + r.e + adds1L.getD (t / 20) 0 + W.getD t 0) % 4294967296, r.a, rot32 r.b 30, r.c, r.d⟩
def rnd1 (W : List Int) (r : R5) : Nat → R5
  | 0 => r
  | t + 1 => stp1 W t (rnd1 W r t)
def stp256 (W : List Int) (t : Nat) (r : R8) : R8 :=
  let x := (r.h + trn32 r.e 6 11 25 + bits .xor .u32 (bits .and .u32 r.e r.f) (bits .and .u32 (bits .xor .u32 IntKind.u32.max r.e) r.g) + adds256L.getD t 0 + W.getD t 0) % 4294967296
  let y := (trn32 r.a 2 13 22 + bits .xor .u32 (bits .xor .u32 (bits .and .u32 r.a r.b) (bits .and .u32 r.a r.c)) (bits .and .u32 r.b r.c)) % 4294967296
  ⟨(x + y) % 4294967296, r.a, r.b, r.c, (r.d + x) % 4294967296, r.e, r.f, r.g⟩
def rnd256 (W : List Int) (r : R8) : Nat → R8
  | 0 => r
  | t + 1 => stp256 W t (rnd256 W r t)
def stp512 (W : List Int) (t : Nat) (r : R8) : R8 :=
  let x := IntKind.u64.wrap (IntKind.u64.wrap (IntKind.u64.wrap (IntKind.u64.wrap (r.h + trn64 r.e 14 18 41) + bits .xor .u64 (bits .and .u64 r.e r.f) (bits .and .u64 (bits .xor .u64 IntKind.u64.max r.e) r.g)) + adds512L.getD t 0) + W.getD t 0)
  let y := IntKind.u64.wrap (trn64 r.a 28 34 39 + bits .xor .u64 (bits .xor .u64 (bits .and .u64 r.a r.b) (bits .and .u64 r.a r.c)) (bits .and .u64 r.b r.c))
  ⟨IntKind.u64.wrap (x + y), r.a, r.b, r.c, IntKind.u64.wrap (r.d + x), r.e, r.f, r.g⟩
def rnd512 (W : List Int) (r : R8) : Nat → R8
  | 0 => r
  | t + 1 => stp512 W t (rnd512 W r t)
/-- A block mixed into a state. -/
def mx1 (s : R8) (bs : List Int) : R8 :=
  let r := rnd1 (sch1 bs 80) ⟨s.a, s.b, s.c, s.d, s.e⟩ 80
  ⟨(s.a + r.a) % 4294967296, (s.b + r.b) % 4294967296, (s.c + r.c) % 4294967296, (s.d + r.d) % 4294967296, (s.e + r.e) % 4294967296, s.f, s.g, s.h⟩
def mx256 (s : R8) (bs : List Int) : R8 :=
  let r := rnd256 (sch256 bs 64) s 64
  ⟨(s.a + r.a) % 4294967296, (s.b + r.b) % 4294967296, (s.c + r.c) % 4294967296, (s.d + r.d) % 4294967296, (s.e + r.e) % 4294967296, (s.f + r.f) % 4294967296, (s.g + r.g) % 4294967296, (s.h + r.h) % 4294967296⟩
def mx512 (s : R8) (bs : List Int) : R8 :=
  let r := rnd512 (sch512 bs 80) s 80
  ⟨IntKind.u64.wrap (s.a + r.a), IntKind.u64.wrap (s.b + r.b), IntKind.u64.wrap (s.c + r.c), IntKind.u64.wrap (s.d + r.d), IntKind.u64.wrap (s.e + r.e), IntKind.u64.wrap (s.f + r.f), IntKind.u64.wrap (s.g + r.g), IntKind.u64.wrap (s.h + r.h)⟩
theorem rot32_u32 (x : Int) (n : Nat) : U32 (rot32 x n) := by unfold rot32; exact bits_u32 _ _ _
theorem rnd1_ok {W : List Int} {r : R5} (h : r.ok) (t : Nat) : (rnd1 W r t).ok := by
  induction t with
  | zero => exact h
  | succ t ih => exact ⟨u32_mod _, ih.1, rot32_u32 _ _, ih.2.2.1, ih.2.2.2.1⟩
theorem rnd256_ok {W : List Int} {r : R8} (h : r.ok U32) (t : Nat) : (rnd256 W r t).ok U32 := by
  induction t with
  | zero => exact h
  | succ t ih => exact ⟨u32_mod _, ih.1, ih.2.1, ih.2.2.1, u32_mod _, ih.2.2.2.2.1, ih.2.2.2.2.2.1, ih.2.2.2.2.2.2.1⟩
theorem rnd512_ok {W : List Int} {r : R8} (h : r.ok U64) (t : Nat) : (rnd512 W r t).ok U64 := by
  induction t with
  | zero => exact h
  | succ t ih => exact ⟨u64_wrap _, ih.1, ih.2.1, ih.2.2.1, u64_wrap _, ih.2.2.2.2.1, ih.2.2.2.2.2.1, ih.2.2.2.2.2.2.1⟩
theorem mx1_ok {s : R8} (h : s.ok U32) (bs : List Int) : (mx1 s bs).ok U32 := ⟨u32_mod _, u32_mod _, u32_mod _, u32_mod _, u32_mod _, h.2.2.2.2.2⟩
theorem mx256_ok {s : R8} (bs : List Int) : (mx256 s bs).ok U32 := ⟨u32_mod _, u32_mod _, u32_mod _, u32_mod _, u32_mod _, u32_mod _, u32_mod _, u32_mod _⟩
theorem mx512_ok {s : R8} (bs : List Int) : (mx512 s bs).ok U64 := ⟨u64_wrap _, u64_wrap _, u64_wrap _, u64_wrap _, u64_wrap _, u64_wrap _, u64_wrap _, u64_wrap _⟩
end Go.Proofs.YtjmiaakfdclfjaaGreatDoor.Sh
/-
  Digest: the walk of mix1.
-/
namespace Go.Proofs.YtjmiaakfdclfjaaGreatDoor.Sh
open Go.RowKit
set_option maxRecDepth 20000
theorem Tryz.size1w : (Tryz.prog.info? 38).map (·.size) = some 1 := by kernel_rfl
theorem Tryz.size8w : (Tryz.prog.info? 69).map (·.size) = some 8 := by kernel_rfl
set_option maxHeartbeats 1000000 in
theorem mix1_any {w : World} (s : R8) (hs : s.ok U32) (b off len c : Nat) (bs : List Int) (hb : b < w.heap.size) (hr : Rd .u8 w b off bs) (ub : U8s bs) (hlen : bs.length ≤ len) (hlc : len ≤ c) (hbs : bs.length = 64) (hT : Tabs w) :
    Calls Tryz.prog 100 #[.agg (s.list.map (Value.int .u32)).toArray, .slice (some ⟨b, off, none⟩) len c] w fun e w' => e = .returned (.agg ((mx1 s bs).list.map (Value.int .u32)).toArray) ∧ Below w.heap.size w w' := by
  obtain ⟨s0, s1, s2, s3, s4, s5, s6, s7⟩ := s
  have HM : Hid (∀ r, rnd1 (sch1 bs 80) ⟨s0, s1, s2, s3, s4⟩ 80 = r → (mx1 ⟨s0, s1, s2, s3, s4, s5, s6, s7⟩ bs).list = [(s0 + r.a) % 4294967296, (s1 + r.b) % 4294967296, (s2 + r.c) % 4294967296, (s3 + r.d) % 4294967296, (s4 + r.e) % 4294967296, s5, s6, s7]) := fun r h => by subst h; rfl
  have HK : Hid (∀ t, (rnd1 (sch1 bs 80) ⟨s0, s1, s2, s3, s4⟩ t).ok) := fun t => rnd1_ok ⟨hs.1, hs.2.1, hs.2.2.1, hs.2.2.2.1, hs.2.2.2.2.1⟩ t
  have HT : Hid (Tabs w) := hT
  have HS : Hid (R8.ok U32 ⟨s0, s1, s2, s3, s4, s5, s6, s7⟩) := hs
  have hz7 := hT.size
  clear hT hs
  show Calls Tryz.prog _ #[.agg #[.int .u32 s0, .int .u32 s1, .int .u32 s2, .int .u32 s3, .int .u32 s4, .int .u32 s5, .int .u32 s6, .int .u32 s7], _] w _
  go_enter Tryz.func100, Tryz.ntmps100
  go_wp2
  go_quiet (fail)
  have hW0 : ∀ o1 o2 : Obj, Below w.heap.size w (((w.alloc o1).alloc o2).drewN nq) := fun o1 o2 => below_drewN _ (((Below.refl _ _).alloc (Nat.le_refl _) _).alloc (by simp) _)
  go_wp2_with (go_at_call 108; refine (words1_any b off len c bs (by simp; omega) (by exact below_rd (hW0 _ _) hb hr) ub hlen hlc hbs).mono ?_; rintro e w1 ⟨rfl, hb1⟩)
  have hB0 : Below w.heap.size w w1 := (hW0 _ _).trans (hb1.mono (by simp; omega))
  have hS1 : Blk 69 w1 w.heap.size [.int .u32 s0, .int .u32 s1, .int .u32 s2, .int .u32 s3, .int .u32 s4, .int .u32 s5, .int .u32 s6, .int .u32 s7] := below_blk hb1 (by simp; omega) ((Blk.new _ w _).alloc _)
  have hZ1 : Blk 69 w1 (w.heap.size + 1) [.int .u32 0, .int .u32 0, .int .u32 0, .int .u32 0, .int .u32 0, .int .u32 0, .int .u32 0, .int .u32 0] := below_blk hb1 (by simp) (by have := Blk.new 69 (w.alloc (.cells #[.int .u32 s0, .int .u32 s1, .int .u32 s2, .int .u32 s3, .int .u32 s4, .int .u32 s5, .int .u32 s6, .int .u32 s7] 69)) [.int .u32 0, .int .u32 0, .int .u32 0, .int .u32 0, .int .u32 0, .int .u32 0, .int .u32 0, .int .u32 0]; exact (by simpa using this : Blk 69 _ (w.heap.size + 1) _).drewN nq)
  have HH : Hid (Below w.heap.size w w1 ∧ Blk 69 w1 w.heap.size [.int .u32 s0, .int .u32 s1, .int .u32 s2, .int .u32 s3, .int .u32 s4, .int .u32 s5, .int .u32 s6, .int .u32 s7] ∧ Blk 69 w1 (w.heap.size + 1) [.int .u32 0, .int .u32 0, .int .u32 0, .int .u32 0, .int .u32 0, .int .u32 0, .int .u32 0, .int .u32 0] ∧ Tabs w1) := ⟨hB0, hS1, hZ1, HT.out.below hB0⟩
  clear hb1 hB0 hS1 hZ1 hW0
  have hWl := sch1_len bs 80
  have HWu : Hid (U32s (sch1 bs 80)) := sch1_u32 ub 80
  obtain ⟨W, hW⟩ : ∃ W, sch1 bs 80 = W := ⟨_, rfl⟩
  rw [hW] at HM HK hWl HWu
  simp only [hW]
  clear hW
  go_loopw [5, 6, 7, 8, 9, 25] (fun va vb vc vd ve iv wr => ∃ (t q : Nat), iv = .int .i64 t ∧ t ≤ 80 ∧ va = .int .u32 (rnd1 W ⟨s0, s1, s2, s3, s4⟩ t).a ∧ vb = .int .u32 (rnd1 W ⟨s0, s1, s2, s3, s4⟩ t).b ∧ vc = .int .u32 (rnd1 W ⟨s0, s1, s2, s3, s4⟩ t).c ∧ vd = .int .u32 (rnd1 W ⟨s0, s1, s2, s3, s4⟩ t).d ∧ ve = .int .u32 (rnd1 W ⟨s0, s1, s2, s3, s4⟩ t).e ∧ wr = w1.drewN q) (fun _ _ _ _ _ iv _ => 80 - (intOf iv).toNat)
  case atStart => exact ⟨0, 0, rfl, by omega, rfl, rfl, rfl, rfl, rfl, rfl⟩
  case round =>
    obtain ⟨t, q, rfl, ht, rfl, rfl, rfl, rfl, rfl, hwr⟩ := hrel
    have HW : Hid (wr = w1.drewN q) := hwr
    clear hwr
    obtain ⟨r, hrr⟩ : ∃ r, rnd1 W ⟨s0, s1, s2, s3, s4⟩ t = r := ⟨_, rfl⟩
    have hok := HK.out t
    have HR : Hid (rnd1 W ⟨s0, s1, s2, s3, s4⟩ t = r) := hrr
    rw [hrr] at hok
    simp only [hrr]
    clear hrr
    obtain ⟨a, b, c, d, e⟩ := r
    obtain ⟨ua, ub, uc, ud, ue⟩ := hok
    by_cases hlt : t < 80
    · obtain ⟨y, hy⟩ : ∃ y : Nat, t / 20 = y := ⟨_, rfl⟩
      have hy' : ((t : Int) / 20) = y := by omega
      have hy3 : y < 4 := by omega
      have hk : wr.cell? ⟨5, y, none⟩ = some (.int .u32 (adds1L.getD y 0)) := by
        rw [HW.out]
        have := HH.out.2.2.2.a1 y (by simp [adds1L]; omega); simpa using this
      have hx : ∀ w' : World, Sem.run Tryz.prog (Instr.index 64 (.agg (W.map (Value.int .u32)).toArray) (.int .i64 t)) w' = .ok (.int .u32 (W.getD t 0)) w' := fun w' => run_index_row w' _ _ 80 .u32 W t Tryz.underlying64 Tryz.underlying38 Tryz.size1w hWl hlt
      obtain ⟨k, hk0⟩ : ∃ k, adds1L.getD y 0 = k := ⟨_, rfl⟩
      obtain ⟨x, hx0⟩ : ∃ x, W.getD t 0 = x := ⟨_, rfl⟩
      rw [hk0] at hk; rw [hx0] at hx
      have HV : Hid (rnd1 W ⟨s0, s1, s2, s3, s4⟩ (t + 1) = ⟨(rot32 a (sh32 5) + ch1 y b c d + e + k + x) % 4294967296, a, rot32 b (sh32 30), c, d⟩) := by
        show stp1 W t _ = _
        rw [HR.out]; unfold stp1; rw [hy, hk0, hx0]; rfl
      have HC : Hid (∀ w' : World, Calls Tryz.prog 110 #[.int .i64 t, .int .u32 b, .int .u32 c, .int .u32 d] w' fun e w'' => e = .returned (.int .u32 (ch1 y b c d)) ∧ w'' = w') := fun w' => by have := choose1_any (w := w') t b c d hlt ub uc ud; rw [hy] at this; exact this
      have HU : Hid (U32 a ∧ U32 b) := ⟨ua, ub⟩
      clear hk0 hx0 hy ua ub uc ud ue
      have ht0 : (t : Int) < 80 := by omega
      go_upto_region 5 with (fail)
      go_quiet (first
        | (go_at_call 109; exact Calls.quiet_of_same (rot32_any _ _ HU.out.1))
        | (go_at_call 110; exact Calls.quiet_of_same (HC.out _)))
      go_wp2_with (go_at_call 109; refine (rot32_any _ _ HU.out.2).mono ?_; rintro e' w' ⟨rfl, rfl⟩)
      go_roundw
      case rel =>
        refine ⟨t + 1, q + nq, by go_num, by omega, ?_⟩
        rw [HV.out]
        exact ⟨rfl, rfl, rfl, rfl, rfl, by rw [HW.out, World.drewN_drewN]⟩
      case measure => simp [intOf]; omega
    · obtain rfl : t = 80 := by omega
      have hM := HM.out _ HR.out
      obtain ⟨hB, hS, hZ, _⟩ := HH.out
      have hBr : Below w.heap.size w wr := by rw [HW.out]; exact below_drewN q hB
      have hSr : Blk 69 wr w.heap.size [.int .u32 s0, .int .u32 s1, .int .u32 s2, .int .u32 s3, .int .u32 s4, .int .u32 s5, .int .u32 s6, .int .u32 s7] := by rw [HW.out]; exact hS
      have hZr : Blk 69 wr (w.heap.size + 1) [.int .u32 0, .int .u32 0, .int .u32 0, .int .u32 0, .int .u32 0, .int .u32 0, .int .u32 0, .int .u32 0] := by rw [HW.out]; exact hZ
      have c0 : wr.cell? ⟨w.heap.size, 0, none⟩ = some (.int .u32 s0) := hSr.cell 0
      have c1 : wr.cell? ⟨w.heap.size, 1, none⟩ = some (.int .u32 s1) := hSr.cell 1
      have c2 : wr.cell? ⟨w.heap.size, 2, none⟩ = some (.int .u32 s2) := hSr.cell 2
      have c3 : wr.cell? ⟨w.heap.size, 3, none⟩ = some (.int .u32 s3) := hSr.cell 3
      have c4 : wr.cell? ⟨w.heap.size, 4, none⟩ = some (.int .u32 s4) := hSr.cell 4
      have f0 : wr.frozen? ⟨w.heap.size, 0, none⟩ = false := hSr.frozen 0
      have f1 : wr.frozen? ⟨w.heap.size, 1, none⟩ = false := hSr.frozen 1
      have f2 : wr.frozen? ⟨w.heap.size, 2, none⟩ = false := hSr.frozen 2
      have f3 : wr.frozen? ⟨w.heap.size, 3, none⟩ = false := hSr.frozen 3
      have f4 : wr.frozen? ⟨w.heap.size, 4, none⟩ = false := hSr.frozen 4
      have HN : Hid (∀ v0 v1 v2 v3 v4 : Value, Blk 69 (((((wr.setCell ⟨w.heap.size, 0, none⟩ v0).setCell ⟨w.heap.size, 1, none⟩ v1).setCell ⟨w.heap.size, 2, none⟩ v2).setCell ⟨w.heap.size, 3, none⟩ v3).setCell ⟨w.heap.size, 4, none⟩ v4) w.heap.size [v0, v1, v2, v3, v4, .int .u32 s5, .int .u32 s6, .int .u32 s7] ∧ Blk 69 (((((wr.setCell ⟨w.heap.size, 0, none⟩ v0).setCell ⟨w.heap.size, 1, none⟩ v1).setCell ⟨w.heap.size, 2, none⟩ v2).setCell ⟨w.heap.size, 3, none⟩ v3).setCell ⟨w.heap.size, 4, none⟩ v4) (w.heap.size + 1) [.int .u32 0, .int .u32 0, .int .u32 0, .int .u32 0, .int .u32 0, .int .u32 0, .int .u32 0, .int .u32 0] ∧ Below w.heap.size w (((((wr.setCell ⟨w.heap.size, 0, none⟩ v0).setCell ⟨w.heap.size, 1, none⟩ v1).setCell ⟨w.heap.size, 2, none⟩ v2).setCell ⟨w.heap.size, 3, none⟩ v3).setCell ⟨w.heap.size, 4, none⟩ v4)) := fun v0 v1 v2 v3 v4 => by
        have hu : Upd wr (((((wr.setCell ⟨w.heap.size, 0, none⟩ v0).setCell ⟨w.heap.size, 1, none⟩ v1).setCell ⟨w.heap.size, 2, none⟩ v2).setCell ⟨w.heap.size, 3, none⟩ v3).setCell ⟨w.heap.size, 4, none⟩ v4) w.heap.size := ((((Upd.set wr w.heap.size 0 v0).trans (Upd.set _ w.heap.size 1 v1)).trans (Upd.set _ w.heap.size 2 v2)).trans (Upd.set _ w.heap.size 3 v3)).trans (Upd.set _ w.heap.size 4 v4)
        exact ⟨((((hSr.set 0 v0).set 1 v1).set 2 v2).set 3 v3).set 4 v4, hu.blk hZr (by omega), hu.below hBr hBr.size (Nat.le_refl _)⟩
      have HMM : Hid ((mx1 ⟨s0, s1, s2, s3, s4, s5, s6, s7⟩ bs).list = [(s0 + a) % 4294967296, (s1 + b) % 4294967296, (s2 + c) % 4294967296, (s3 + d) % 4294967296, (s4 + e) % 4294967296, s5, s6, s7]) := hM
      clear hM hB hS hZ hBr hSr hZr ua ub uc ud ue
      go_upto_region 13 with (fail)
      obtain ⟨hS', hZ', hB'⟩ := HN.out (.int .u32 ((s0 + a) % 4294967296)) (.int .u32 ((s1 + b) % 4294967296)) (.int .u32 ((s2 + c) % 4294967296)) (.int .u32 ((s3 + d) % 4294967296)) (.int .u32 ((s4 + e) % 4294967296))
      obtain ⟨cs, hcs⟩ : ∃ cs, ([(s0 + a) % 4294967296, (s1 + b) % 4294967296, (s2 + c) % 4294967296, (s3 + d) % 4294967296, (s4 + e) % 4294967296, s5, s6, s7] : List Int).map (Value.int .u32) = cs := ⟨_, rfl⟩
      have hlen : cs.length = 8 := by rw [← hcs]; rfl
      have HO : Hid (cs.toArray.all (·.oneCell') = true) := by rw [← hcs]; exact ints_one _ _
      have HC : Hid ((mx1 ⟨s0, s1, s2, s3, s4, s5, s6, s7⟩ bs).list.map (Value.int .u32) = cs) := by rw [HMM.out]; exact hcs
      have hcs2 : [Value.int .u32 ((s0 + a) % 4294967296), .int .u32 ((s1 + b) % 4294967296), .int .u32 ((s2 + c) % 4294967296), .int .u32 ((s3 + d) % 4294967296), .int .u32 ((s4 + e) % 4294967296), .int .u32 s5, .int .u32 s6, .int .u32 s7] = cs := hcs
      rw [hcs2] at hS'
      clear hcs hcs2
      revert hS' hZ' hB'
      generalize World.setCell _ _ _ = wf
      intro hZ' hB' hS2
      have HF : Hid (Blk 69 (wf.setCells (w.heap.size + 1) 0 cs) (w.heap.size + 1) cs ∧ Below w.heap.size w (wf.setCells (w.heap.size + 1) 0 cs)) := ⟨hZ'.fill cs (by rw [hlen]; rfl), (Upd.setCells cs 0 wf).below hB' hB'.size (by omega)⟩
      have HS2 : Hid (wf.rangeAt w.heap.size 0 cs ∧ wf.there (w.heap.size + 1) 0 cs.toArray.size) := ⟨hS2.whole, hZ'.there 0 _ (by simp [hlen])⟩
      have HSz : Hid ((Tryz.prog.info? 69).map (·.size) = some cs.length) := by rw [hlen]; exact Tryz.size8w
      clear hS2 hZ' hB' hlen c0 c1 c2 c3 c4 f0 f1 f2 f3 f4
      go_wp2_with (first
        | (refine wpList_load_mid rfl _ _ rfl w.heap.size 0 rfl cs _ HS2.out.1 Tryz.underlying69 rfl HSz.out ?_)
        | (refine wpList_store_mid rfl _ _ _ rfl (w.heap.size + 1) 0 cs.toArray rfl rfl HS2.out.2 (by simpa using HSz.out) HO.out ?_))
      refine bodyPost_ret (v := .agg cs.toArray) (results_blk (b := w.heap.size + 1) (cs := cs) rfl rfl HF.out.1 Tryz.underlying69 rfl HSz.out) rfl ⟨by rw [HC.out], HF.out.2⟩
end Go.Proofs.YtjmiaakfdclfjaaGreatDoor.Sh
