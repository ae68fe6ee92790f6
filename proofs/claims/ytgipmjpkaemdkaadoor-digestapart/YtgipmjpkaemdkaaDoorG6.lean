/-
  Digest: choose1; the tables; the steps of the three digests as Lean functions.
-/
import Derived.Test.YtgipmjpkaemdkaaDoorG5
namespace Go.Proofs.YtgipmjpkaemdkaaDoor
open Go.RowKit
def ch1 (q : Nat) (b c d : Int) : Int :=
  match q with
  | 0 => bits .or .u32 (bits .and .u32 b c) (bits .and .u32 (bits .xor .u32 IntKind.u32.max b) d)
  | 2 => bits .or .u32 (bits .or .u32 (bits .and .u32 b c) (bits .and .u32 b d)) (bits .and .u32 c d)
  | _ => bits .xor .u32 (bits .xor .u32 b c) d
set_option maxHeartbeats 500000 in
theorem choose1_any {w : World} (t : Nat) (b c d : Int) (ht : t < 80) (hb : U32 b) (hc : U32 c) (hd : U32 d) :
    Calls Tryd.prog 52 #[.int .i64 t, .int .u32 b, .int .u32 c, .int .u32 d] w fun e w' => e = .returned (.int .u32 (ch1 (t / 20) b c d)) ∧ w' = w := by
  obtain ⟨b0, b1⟩ := hb
  obtain ⟨c0, c1⟩ := hc
  obtain ⟨d0, d1⟩ := hd
  obtain ⟨q, hq⟩ : ∃ q : Nat, t / 20 = q := ⟨_, rfl⟩
  have HQ : Hid (t / 20 = q) := hq
  have hq' : ((t : Int) / 20) = q := by omega
  have hq3 : q = 0 ∨ q = 1 ∨ q = 2 ∨ q = 3 := by omega
  clear hq
  go_enter Tryd.func52, Tryd.ntmps52
  rcases hq3 with rfl | rfl | rfl | rfl <;> go_wp2
  all_goals go_ret
  all_goals exact ⟨by rw [HQ.out]; rfl, rfl⟩
def first1L : List Int := [1732584193, 4023233417, 2562383102, 271733878, 3285377520, 0, 0, 0]
def adds1L : List Int := [1518500249, 1859775393, 2400959708, 3395469782]
def first256L : List Int := [1779033703, 3144134277, 1013904242, 2773480762, 1359893119, 2600822924, 528734635, 1541459225]
def first384L : List Int := [14680500436340154072, 7105036623409894663, 10473403895298186519, 1526699215303891257, 7436329637833083697, 10282925794625328401, 15784041429090275239, 5167115440072839076]
def first512L : List Int := [7640891576956012808, 13503953896175478587, 4354685564936845355, 11912009170470909681, 5840696475078001361, 11170449401992604703, 2270897969802886507, 6620516959819538809]
def adds256L : List Int := [1116352408, 1899447441, 3049323471, 3921009573, 961987163, 1508970993, 2453635748, 2870763221, 3624381080, 310598401, 607225278, 1426881987, 1925078388, 2162078206, 2614888103, 3248222580, 3835390401, 4022224774, 264347078, 604807628, 770255983, 1249150122, 1555081692, 1996064986, 2554220882, 2821834349, 2952996808, 3210313671, 3336571891, 3584528711, 113926993, 338241895, 666307205, 773529912, 1294757372, 1396182291, 1695183700, 1986661051, 2177026350, 2456956037, 2730485921, 2820302411, 3259730800, 3345764771, 3516065817, 3600352804, 4094571909, 275423344, 430227734, 506948616, 659060556, 883997877, 958139571, 1322822218, 1537002063, 1747873779, 1955562222, 2024104815, 2227730452, 2361852424, 2428436474, 2756734187, 3204031479, 3329325298]
def adds512L : List Int := [4794697086780616226, 8158064640168781261, 13096744586834688815, 16840607885511220156, 4131703408338449720, 6480981068601479193, 10538285296894168987, 12329834152419229976, 15566598209576043074, 1334009975649890238, 2608012711638119052, 6128411473006802146, 8268148722764581231, 9286055187155687089, 11230858885718282805, 13951009754708518548, 16472876342353939154, 17275323862435702243, 1135362057144423861, 2597628984639134821, 3308224258029322869, 5365058923640841347, 6679025012923562964, 8573033837759648693, 10970295158949994411, 12119686244451234320, 12683024718118986047, 13788192230050041572, 14330467153632333762, 15395433587784984357, 489312712824947311, 1452737877330783856, 2861767655752347644, 3322285676063803686, 5560940570517711597, 5996557281743188959, 7280758554555802590, 8532644243296465576, 9350256976987008742, 10552545826968843579, 11727347734174303076, 12113106623233404929, 14000437183269869457, 14369950271660146224, 15101387698204529176, 15463397548674623760, 17586052441742319658, 1182934255886127544, 1847814050463011016, 2177327727835720531, 2830643537854262169, 3796741975233480872, 4115178125766777443, 5681478168544905931, 6601373596472566643, 7507060721942968483, 8399075790359081724, 8693463985226723168, 9568029438360202098, 10144078919501101548, 10430055236837252648, 11840083180663258601, 13761210420658862357, 14299343276471374635, 14566680578165727644, 15097957966210449927, 16922976911328602910, 17689382322260857208, 500013540394364858, 748580250866718886, 1242879168328830382, 1977374033974150939, 2944078676154940804, 3659926193048069267, 4368137639120453308, 4836135668995329356, 5532061633213252278, 6448918945643986474, 6902733635092675308, 7801388544844847127]
/-- The package's tables lie where they lie, and hold what they hold. -/
structure Tabs (w : World) : Prop where
  size : 7 ≤ w.heap.size
  f1 : Rd .u32 w 0 0 first1L
  f256 : Rd .u32 w 1 0 first256L
  f384 : Rd .u64 w 2 0 first384L
  f512 : Rd .u64 w 3 0 first512L
  a1 : Rd .u32 w 4 0 adds1L
  a256 : Rd .u32 w 5 0 adds256L
  a512 : Rd .u64 w 6 0 adds512L
theorem Tabs.below {w w' : World} (h : Tabs w) (hb : Below w.heap.size w w') : Tabs w' := by
  have hs := h.size
  have hz := hb.size
  exact ⟨by omega, below_rd hb (by omega) h.f1, below_rd hb (by omega) h.f256, below_rd hb (by omega) h.f384, below_rd hb (by omega) h.f512, below_rd hb (by omega) h.a1, below_rd hb (by omega) h.a256, below_rd hb (by omega) h.a512⟩
theorem Tabs.upd {w w' : World} {b : Nat} (h : Tabs w) (hu : Upd w w' b) (hb : 7 ≤ b) : Tabs w' := by
  have hs := h.size
  have hz := hu.size
  exact ⟨by omega, hu.rd (by omega) h.f1 (by omega), hu.rd (by omega) h.f256 (by omega), hu.rd (by omega) h.f384 (by omega), hu.rd (by omega) h.f512 (by omega), hu.rd (by omega) h.a1 (by omega), hu.rd (by omega) h.a256 (by omega), hu.rd (by omega) h.a512 (by omega)⟩
/-- Five words; eight words. -/
structure R5 where
  a : Int
  b : Int
  c : Int
  d : Int
  e : Int
structure R8 where
  a : Int
  b : Int
  c : Int
  d : Int
  e : Int
  f : Int
  g : Int
  h : Int
def R5.ok (r : R5) : Prop := U32 r.a ∧ U32 r.b ∧ U32 r.c ∧ U32 r.d ∧ U32 r.e
def R8.ok (U : Int → Prop) (r : R8) : Prop := U r.a ∧ U r.b ∧ U r.c ∧ U r.d ∧ U r.e ∧ U r.f ∧ U r.g ∧ U r.h
def R8.list (r : R8) : List Int := [r.a, r.b, r.c, r.d, r.e, r.f, r.g, r.h]
def stp1 (W : List Int) (t : Nat) (r : R5) : R5 :=
  ⟨(rot32 r.a 5 + ch1 (t / 20) r.b r.c r.d + r.e + adds1L.getD (t / 20) 0 + W.getD t 0) % 4294967296, r.a, rot32 r.b 30, r.c, r.d⟩
def rnd1 (W : List Int) (r : R5) : Nat → R5
  | 0 => r
  | t + 1 => stp1 W t (rnd1 W r t)
def stp256 (W : List Int) (t : Nat) (r : R8) : R8 :=
  let x := (r.h + trn32 r.e 6 11 25 + bits .xor .u32 (bits .and .u32 r.e r.f) (bits .and .u32 (bits .xor .u32 IntKind.u32.max r.e) r.g) + adds256L.getD t 0 + W.getD t 0) % 4294967296
  let y := (trn32 r.a 2 13 22 + bits .xor .u32 (bits .xor .u32 (bits .and .u32 r.a r.b) (bits .and .u32 r.a r.c)) (bits .and .u32 r.b r.c)) % 4294967296
  ⟨(x + y) % 4294967296, r.a, r.b, r.c, (r.d + x) % 4294967296, r.e, r.f, r.g⟩
def rnd256 (W : List Int) (r : R8) : Nat → R8
  | 0 => r
  | t + 1 => stp256 W t (rnd256 W r t)
def stp512 (W : List Int) (t : Nat) (r : R8) : R8 :=
  let x := IntKind.u64.wrap (IntKind.u64.wrap (IntKind.u64.wrap (IntKind.u64.wrap (r.h + trn64 r.e 14 18 41) + bits .xor .u64 (bits .and .u64 r.e r.f) (bits .and .u64 (bits .xor .u64 IntKind.u64.max r.e) r.g)) + adds512L.getD t 0) + W.getD t 0)
  let y := IntKind.u64.wrap (trn64 r.a 28 34 39 + bits .xor .u64 (bits .xor .u64 (bits .and .u64 r.a r.b) (bits .and .u64 r.a r.c)) (bits .and .u64 r.b r.c))
  ⟨IntKind.u64.wrap (x + y), r.a, r.b, r.c, IntKind.u64.wrap (r.d + x), r.e, r.f, r.g⟩
def rnd512 (W : List Int) (r : R8) : Nat → R8
  | 0 => r
  | t + 1 => stp512 W t (rnd512 W r t)
/-- A block mixed into a state. -/
def mx1 (s : R8) (bs : List Int) : R8 :=
  let r := rnd1 (sch1 bs 80) ⟨s.a, s.b, s.c, s.d, s.e⟩ 80
  ⟨(s.a + r.a) % 4294967296, (s.b + r.b) % 4294967296, (s.c + r.c) % 4294967296, (s.d + r.d) % 4294967296, (s.e + r.e) % 4294967296, s.f, s.g, s.h⟩
def mx256 (s : R8) (bs : List Int) : R8 :=
  let r := rnd256 (sch256 bs 64) s 64
  ⟨(s.a + r.a) % 4294967296, (s.b + r.b) % 4294967296, (s.c + r.c) % 4294967296, (s.d + r.d) % 4294967296, (s.e + r.e) % 4294967296, (s.f + r.f) % 4294967296, (s.g + r.g) % 4294967296, (s.h + r.h) % 4294967296⟩
def mx512 (s : R8) (bs : List Int) : R8 :=
  let r := rnd512 (sch512 bs 80) s 80
  ⟨IntKind.u64.wrap (s.a + r.a), IntKind.u64.wrap (s.b + r.b), IntKind.u64.wrap (s.c + r.c), IntKind.u64.wrap (s.d + r.d), IntKind.u64.wrap (s.e + r.e), IntKind.u64.wrap (s.f + r.f), IntKind.u64.wrap (s.g + r.g), IntKind.u64.wrap (s.h + r.h)⟩
theorem rot32_u32 (x : Int) (n : Nat) : U32 (rot32 x n) := by unfold rot32; exact bits_u32 _ _ _
theorem rnd1_ok {W : List Int} {r : R5} (h : r.ok) (t : Nat) : (rnd1 W r t).ok := by
  induction t with
  | zero => exact h
  | succ t ih => exact ⟨u32_mod _, ih.1, rot32_u32 _ _, ih.2.2.1, ih.2.2.2.1⟩
theorem rnd256_ok {W : List Int} {r : R8} (h : r.ok U32) (t : Nat) : (rnd256 W r t).ok U32 := by
  induction t with
  | zero => exact h
  | succ t ih => exact ⟨u32_mod _, ih.1, ih.2.1, ih.2.2.1, u32_mod _, ih.2.2.2.2.1, ih.2.2.2.2.2.1, ih.2.2.2.2.2.2.1⟩
theorem rnd512_ok {W : List Int} {r : R8} (h : r.ok U64) (t : Nat) : (rnd512 W r t).ok U64 := by
  induction t with
  | zero => exact h
  | succ t ih => exact ⟨u64_wrap _, ih.1, ih.2.1, ih.2.2.1, u64_wrap _, ih.2.2.2.2.1, ih.2.2.2.2.2.1, ih.2.2.2.2.2.2.1⟩
theorem mx1_ok {s : R8} (h : s.ok U32) (bs : List Int) : (mx1 s bs).ok U32 := ⟨u32_mod _, u32_mod _, u32_mod _, u32_mod _, u32_mod _, h.2.2.2.2.2⟩
theorem mx256_ok {s : R8} (bs : List Int) : (mx256 s bs).ok U32 := ⟨u32_mod _, u32_mod _, u32_mod _, u32_mod _, u32_mod _, u32_mod _, u32_mod _, u32_mod _⟩
theorem mx512_ok {s : R8} (bs : List Int) : (mx512 s bs).ok U64 := ⟨u64_wrap _, u64_wrap _, u64_wrap _, u64_wrap _, u64_wrap _, u64_wrap _, u64_wrap _, u64_wrap _⟩
end Go.Proofs.YtgipmjpkaemdkaaDoor
