/-
  Rsa: the known keys; what is signed is verified, and nothing else. (wip/mky60.py)
-/
import Derived.Laws.BytesArg
import Derived.Lib.SlBytesConst
import Derived.Test.YtjmiaakfdclfjaaGreatDoorK28
namespace Go.Proofs.YtjmiaakfdclfjaaGreatDoor
open Go.RowKit Pm
set_option maxRecDepth 20000
theorem beb_succ (v : Int) (n : Nat) : Nt.beb v (n + 1) = (v / 256 ^ n % 256) :: Nt.beb v n := by
  unfold Nt.beb
  rw [List.range_succ_eq_map, List.map_cons, List.map_map]
  congr 1
  apply List.map_congr_left
  intro k hk
  have := List.mem_range.1 hk
  show v / 256 ^ (n + 1 - 1 - (k + 1)) % 256 = _
  congr 3
  omega
theorem bv_beb (v : Int) (n : Nat) : Nt.bv (Nt.beb v n).reverse = v % 256 ^ n := by
  induction n with
  | zero => show (0 : Int) = v % 256 ^ 0; simp
  | succ n ih =>
    rw [beb_succ, List.reverse_cons, Nt.bv_append, ih, List.length_reverse, Nt.beb_len]
    have e : Nt.bv [v / 256 ^ n % 256] = v / 256 ^ n % 256 := by simp [Nt.bv]
    rw [e, Int.pow_succ]
    have hp : (0 : Int) < 256 ^ n := Int.pow_pos (by decide)
    generalize (256 : Int) ^ n = p at *
    have h1 := Int.emod_add_mul_ediv v p
    have h2 := Int.emod_add_mul_ediv (v / p) 256
    have h3 := Int.emod_add_mul_ediv v (p * 256)
    have h4 : v / p / 256 = v / (p * 256) := Int.ediv_ediv_of_nonneg (by omega)
    rw [h4] at h2
    have h5 : p * (v / p) = p * (v / p % 256) + p * 256 * (v / (p * 256)) := by rw [← h2, Int.mul_add, Int.mul_assoc, h2]
    omega
theorem bv_get {xs : List Int} (h : Nt.U8s xs) (k : Nat) : Nt.bv xs / 256 ^ k % 256 = xs.getD k 0 := by
  induction xs generalizing k with
  | nil => simp [Nt.bv]
  | cons x xs ih =>
    have hx := h x (by simp)
    unfold Nt.U8 at hx
    have hb := (Nt.bv_bound h.tail).1
    cases k with
    | zero => simp [Nt.bv]; omega
    | succ k =>
      have e : (256 : Int) ^ (k + 1) = 256 * 256 ^ k := by rw [Int.pow_succ, Int.mul_comm]
      rw [List.getD_cons_succ, ← ih h.tail k, e]
      have hp : (0 : Int) < 256 ^ k := Int.pow_pos (by decide)
      rw [← Int.ediv_ediv_of_nonneg (by decide)]
      have e2 : Nt.bv (x :: xs) / 256 = Nt.bv xs := by simp only [Nt.bv]; omega
      rw [e2]
def kN : Nat → List Int
  | 0 => N0
  | 1 => [447526239, 1829156313, 1879515421, 4107444635, 3585720734, 1991253479, 2516768444, 3373017810, 1205978055, 1538251098, 196053331, 1922245038, 2255523067, 1735923309, 2944431911, 868394361, 4017789066, 1470251928, 1835714117, 3624612288, 4242376361, 1111742522, 1457454055, 3904486991]
  | _ => [2647757785, 1389125602, 1571717152, 2974836829, 3776471463, 3789918380, 265465329, 2705477333, 2528306116, 1305786319, 3012271374, 1555166574, 3737811301, 2107156747, 423797723, 3496193931, 2229497578, 3545628057, 795677410, 3294071916, 3692226254, 2201277676, 1168892286, 3890423924, 3768719188, 1348662635, 838196833, 466793529, 1006143140, 3002503770, 4121073702, 3778180073]
def kE : Nat → List Int
  | 0 => [3]
  | _ => [65537]
def kD : Nat → List Int
  | 0 => D0
  | 1 => [3621519977, 3268799092, 3739516396, 206456287, 3610635974, 623975115, 3290812447, 1284005469, 2839468200, 1102384690, 247832016, 3318194052, 792414134, 1014899858, 3018861402, 3270484745, 3809549036, 2137766059, 3239253027, 2310304235, 3354661807, 2841138446, 2129838785, 419123029]
  | _ => [221114889, 4052409353, 3618135462, 3638896212, 41876785, 2981551223, 2886658486, 1775630866, 3447871993, 1687748997, 3209162719, 3268866316, 2051154063, 2544485275, 3760155216, 3752499951, 2496820468, 83771141, 3160279440, 1312331270, 3585048767, 3787517679, 1319449402, 1117739304, 4056262221, 2567164873, 3762953771, 2291027615, 2230826018, 4177935750, 4171126346, 831105070]
/-- What is asked of a key. -/
structure KeyG (ns es ds : List Int) (n e d sz : Nat) : Prop where
  un : U32s ns
  ue : U32s es
  ud : U32s ds
  vn : val ns = n
  ve : val es = e
  vd : val ds = d
  ok : keyOk ns es = true
  ksz : keySz ns es = sz
  lo : 256 ^ (sz - 1) ≤ n
  hi : n ≤ 256 ^ sz
  s1 : 2 ≤ sz ∧ sz ≤ 128
  back : ∀ m, m < n → (m ^ d % n) ^ e % n = m
  forth : ∀ m, m < n → (m ^ e % n) ^ d % n = m
  len : ns.length ≤ 32 ∧ es.length ≤ 32 ∧ ds.length ≤ 32
theorem u32_of {S : List Int} (h1 : (S.all fun y => decide (0 ≤ y ∧ y < 4294967296)) = true) : U32s S := fun y hy => by have := List.all_eq_true.1 h1 y hy; unfold U32; simpa using this
theorem keyG0 : KeyG (kN 0) (kE 0) (kD 0) 8657582555507491686262974108093741294544742598297280675245024231515694375475306331591516064085498613796312832291049736970477446530984494687968453394336147 3 1442930425917915281043829018015623549090790433049546779207504038585949062579186674336889803531972773499315327157853193553596817581351923061889913432630487 64 where
  un := u32_of (by decide +kernel)
  ue := u32_of (by decide +kernel)
  ud := u32_of (by decide +kernel)
  vn := by decide +kernel
  ve := by decide +kernel
  vd := by decide +kernel
  ok := by decide +kernel
  ksz := by decide +kernel
  lo := by decide +kernel
  hi := by decide +kernel
  s1 := by decide
  back := key0_back
  forth := key0_forth
  len := by decide
theorem keyG1 : KeyG (kN 1) (kE 1) (kD 1) 1411369697937529239264245652434151725049269331422965351317348809731350390651401067502349558634232375508069991182683878948094877434088774610726893922824288367182607752606142574587576572898821162482467461118397121397604651059758544223 65537 151501988571196701073042222940846504809826658934045825205876815790470268676207432593481989486730011469845619847874949415065840972477637686533868603124621910600176458804336420571753929867483422507630363337458457719387330334529684073 96 where
  un := u32_of (by decide +kernel)
  ue := u32_of (by decide +kernel)
  ud := u32_of (by decide +kernel)
  vn := by decide +kernel
  ve := by decide +kernel
  vd := by decide +kernel
  ok := by decide +kernel
  ksz := by decide +kernel
  lo := by decide +kernel
  hi := by decide +kernel
  s1 := by decide
  back := key1_back
  forth := key1_forth
  len := by decide
theorem keyG2 : KeyG (kN 2) (kE 2) (kD 2) 158138768310440055392957985137471508737999308801297937211307408067755664376562154580867038784686764059489708891404982936022918860834194886416610481542594377020291056682069603768840286117302932809677454382742429974200262911255078811515943309616784668018445819732220310856015529499834227459283537708654336775129 65537 34786571758662420595580798521970154351303340637104409902906957114436112966487759609305730574170876513475340467719607801656688737006823177442132917392599775289752026883225789947544933004858671561971341270580737665467859858273168788342998481674874261459161868012306468602533762716191991941694790042104074465801 128 where
  un := u32_of (by decide +kernel)
  ue := u32_of (by decide +kernel)
  ud := u32_of (by decide +kernel)
  vn := by decide +kernel
  ve := by decide +kernel
  vd := by decide +kernel
  ok := by decide +kernel
  ksz := by decide +kernel
  lo := by decide +kernel
  hi := by decide +kernel
  s1 := by decide
  back := key2_back
  forth := key2_forth
  len := by decide
/-- A row of bytes as a number. -/
def bn (Z : List Int) : Nat := (Nt.bv Z.reverse).toNat
theorem bn_cast {Z : List Int} (hu : U8s Z) : ((bn Z : Nat) : Int) = Nt.bv Z.reverse := Int.toNat_of_nonneg (Nt.bv_bound (u8_rev hu)).1
theorem bn_lt {Z : List Int} (hu : U8s Z) : bn Z < 256 ^ Z.length := by
  have h := (Nt.bv_bound (u8_rev hu)).2
  rw [← bn_cast hu, List.length_reverse] at h
  have : ((bn Z : Nat) : Int) < ((256 ^ Z.length : Nat) : Int) := by rw [Int.natCast_pow]; exact h
  exact Int.ofNat_lt.1 this
theorem beb_bn {Z : List Int} (hu : U8s Z) : Nt.beb (bn Z : Int) Z.length = Z := by
  have hv := u8_rev hu
  rw [bn_cast hu]
  apply List.ext_getElem
  · rw [Nt.beb_len]
  · intro k h1 h2
    have g := Nt.beb_get (Nt.bv Z.reverse) Z.length k h2
    rw [bv_get hv] at g
    rw [List.getD_eq_getElem?_getD, List.getElem?_eq_getElem h1, Option.getD_some] at g
    rw [g, List.getD_eq_getElem?_getD, List.getElem?_reverse (by omega), List.getElem?_eq_getElem (by omega), Option.getD_some]
    congr 1
    omega
theorem bn_beb {x n : Nat} (h : x < 256 ^ n) : bn (Nt.beb (x : Int) n) = x := by
  unfold bn
  rw [bv_beb]
  have h2 : (x : Int) < 256 ^ n := by
    have := Int.ofNat_lt.2 h
    rw [Int.natCast_pow] at this
    exact this
  rw [Int.emod_eq_of_lt (by omega) h2]
  rfl
theorem beb_u8 (x : Int) (n : Nat) : U8s (Nt.beb x n) := fun y hy => Nt.beb_u8 x n y hy
theorem bytS_beb {x n : Nat} (hn : n ≤ 128) (h : x < 256 ^ n) : Nt.bytS (lim x) (n : Int) = (Nt.beb (x : Int) n, 0) := by
  have hl : (lim x).length ≤ 128 := by
    refine lim_len_le ?_
    have : ((x : Nat) : Int) < ((256 ^ 128 : Nat) : Int) := Int.ofNat_lt.2 (Nat.lt_of_lt_of_le h (Nat.pow_le_pow_right (by decide) hn))
    have e : ((256 ^ 128 : Nat) : Int) ≤ (4294967296 : Int) ^ 128 := by decide +kernel
    omega
  have hb : bitLen x ≤ 8 * n := bitLen_lt (by rw [Nat.pow_mul]; exact h)
  unfold Nt.bytS
  rw [if_neg (by omega), if_neg (by omega), val_lim, Int.toNat_natCast, if_neg (by omega)]
  rfl
/-- What Raw tells of a row of bytes that is below the modulus. -/
theorem raw_is {ns es ds : List Int} {n e d sz : Nat} (K : KeyG ns es ds n e d sz) {sg : List Int} (us : U8s sg) (hl : sg.length = sz) : rawS ns es sg = if n ≤ bn sg then ([], 112) else (Nt.beb ((bn sg ^ e % n : Nat) : Int) sz, 0) := by
  unfold rawS
  rw [if_neg (by rw [K.ok]; decide), K.ksz, if_neg (by omega), K.vn, ← bn_cast us]
  by_cases h : n ≤ bn sg
  · rw [if_pos (by omega), if_pos h]
  · rw [if_neg (by omega), if_neg h, K.ve, Int.toNat_natCast, ← Int.natCast_pow]
    have e1 : (((bn sg ^ e : Nat) : Int) % (n : Int)).toNat = bn sg ^ e % n := by rw [← Int.natCast_emod]; rfl
    rw [e1]
    refine bytS_beb K.s1.2 ?_
    have : 0 < n := Nat.lt_of_lt_of_le (Nat.pow_pos (by decide)) K.lo
    exact Nat.lt_of_lt_of_le (Nat.mod_lt _ this) K.hi
/-- A signature. -/
def sgS (n d sz : Nat) (Z : List Int) : List Int := Nt.beb ((bn Z ^ d % n : Nat) : Int) sz
theorem sgS_len (n d sz : Nat) (Z : List Int) : (sgS n d sz Z).length = sz := Nt.beb_len _ _
theorem sgS_bn {ns es ds : List Int} {n e d sz : Nat} (K : KeyG ns es ds n e d sz) (Z : List Int) : bn (sgS n d sz Z) = bn Z ^ d % n ∧ bn Z ^ d % n < n := by
  have h0 : 0 < n := Nat.lt_of_lt_of_le (Nat.pow_pos (by decide)) K.lo
  have := Nat.mod_lt (bn Z ^ d) h0
  exact ⟨bn_beb (Nat.lt_of_lt_of_le this K.hi), this⟩
end Go.Proofs.YtjmiaakfdclfjaaGreatDoor
/-
  Rsa: the reference's Known, power, Sign. (wip/mky61.py)
-/
namespace Go.Proofs.YtjmiaakfdclfjaaGreatDoor
open Go.RowKit
set_option maxRecDepth 20000
/-- A known key in memory. -/
def KnAns (i : Nat) (w : World) (e : Ending) (w' : World) : Prop := ∃ a c a' c' b d, e = .returned (.tuple #[.agg #[.slice a (kN i).length c, .slice a' (kE i).length c'], .slice b (kD i).length d]) ∧ Sl .u32 w' (.slice a (kN i).length c) (kN i) ∧ Sl .u32 w' (.slice a' (kE i).length c') (kE i) ∧ Sl .u32 w' (.slice b (kD i).length d) (kD i) ∧ Below w.heap.size w w'
set_option maxHeartbeats 2000000 in
theorem Known_0 {w : World} : Calls Tryz.prog 5 #[.int .i64 0] w fun e w' => KnAns 0 w e w' := by
  go_enter Tryz.func5, Tryz.ntmps5
  go_wp2
  have k0 := (((Blk.new 26 w [.slice (some ⟨w.heap.size + 1, 0, none⟩) 16 16, .slice (some ⟨w.heap.size + 1 + 1, 0, none⟩) 1 1]).alloc (.cells ((kN 0).map (Value.int .u32)).toArray 38)).alloc (.cells #[.int .u32 3] 38)).alloc (.cells ((kD 0).map (Value.int .u32)).toArray 38)
  have k1 := ((Blk.new 38 (w.alloc (.cells #[.slice (some ⟨w.heap.size + 1, 0, none⟩) 16 16, .slice (some ⟨w.heap.size + 1 + 1, 0, none⟩) 1 1] 26)) ((kN 0).map (Value.int .u32))).alloc (.cells #[.int .u32 3] 38)).alloc (.cells ((kD 0).map (Value.int .u32)).toArray 38)
  have k2 := (Blk.new 38 ((w.alloc (.cells #[.slice (some ⟨w.heap.size + 1, 0, none⟩) 16 16, .slice (some ⟨w.heap.size + 1 + 1, 0, none⟩) 1 1] 26)).alloc (.cells ((kN 0).map (Value.int .u32)).toArray 38)) [.int .u32 3]).alloc (.cells ((kD 0).map (Value.int .u32)).toArray 38)
  have k3 := Blk.new 38 (((w.alloc (.cells #[.slice (some ⟨w.heap.size + 1, 0, none⟩) 16 16, .slice (some ⟨w.heap.size + 1 + 1, 0, none⟩) 1 1] 26)).alloc (.cells ((kN 0).map (Value.int .u32)).toArray 38)).alloc (.cells #[.int .u32 3] 38)) ((kD 0).map (Value.int .u32))
  have hbw := (((al1 (w := w) (.cells #[.slice (some ⟨w.heap.size + 1, 0, none⟩) 16 16, .slice (some ⟨w.heap.size + 1 + 1, 0, none⟩) 1 1] 26)).alloc (by simp) (.cells ((kN 0).map (Value.int .u32)).toArray 38)).alloc (by simp; omega) (.cells #[.int .u32 3] 38)).alloc (by simp; omega) (.cells ((kD 0).map (Value.int .u32)).toArray 38)
  simp only [World.size_alloc] at k1 k2 k3
  refine bodyPost_ret (v := .tuple #[.agg #[.slice (some ⟨w.heap.size + 1, 0, none⟩) 16 16, .slice (some ⟨w.heap.size + 1 + 1, 0, none⟩) 1 1], .slice (some ⟨w.heap.size + 1 + 1 + 1, 0, none⟩) 16 16]) ?_ rfl ⟨_, _, _, _, _, _, rfl, ?_, ?_, ?_, hbw⟩
  · rw [results_cell_tmp rfl]
    have e := run_loadVar_mid (P := Tryz.prog) _ w.heap.size 0 26 _ _ k0.whole Tryz.underlying26 rfl (by kernel_rfl)
    have e0 : ∀ W : World, (asAddr (.pointer (some ⟨w.heap.size, 0, none⟩))).run Tryz.prog W = .ok ⟨w.heap.size, 0, none⟩ W := fun W => rfl
    show Result.andThen ((asAddr (.pointer (some ⟨w.heap.size, 0, none⟩))).run Tryz.prog _) _ = _
    rw [e0]
    simp only [Result.andThen_ok]
    exact congrArg (fun r => Result.andThen r _) e
  · exact (show Arr .u32 38 _ (w.heap.size + 1) (kN 0) from k1).sl
  · exact (show Arr .u32 38 _ (w.heap.size + 1 + 1) (kE 0) from k2).sl
  · exact (show Arr .u32 38 _ (w.heap.size + 1 + 1 + 1) (kD 0) from k3).sl
set_option maxHeartbeats 2000000 in
theorem Known_1 {w : World} : Calls Tryz.prog 5 #[.int .i64 1] w fun e w' => KnAns 1 w e w' := by
  go_enter Tryz.func5, Tryz.ntmps5
  go_wp2
  have k0 := (((Blk.new 26 w [.slice (some ⟨w.heap.size + 1, 0, none⟩) 24 24, .slice (some ⟨w.heap.size + 1 + 1, 0, none⟩) 1 1]).alloc (.cells ((kN 1).map (Value.int .u32)).toArray 38)).alloc (.cells #[.int .u32 65537] 38)).alloc (.cells ((kD 1).map (Value.int .u32)).toArray 38)
  have k1 := ((Blk.new 38 (w.alloc (.cells #[.slice (some ⟨w.heap.size + 1, 0, none⟩) 24 24, .slice (some ⟨w.heap.size + 1 + 1, 0, none⟩) 1 1] 26)) ((kN 1).map (Value.int .u32))).alloc (.cells #[.int .u32 65537] 38)).alloc (.cells ((kD 1).map (Value.int .u32)).toArray 38)
  have k2 := (Blk.new 38 ((w.alloc (.cells #[.slice (some ⟨w.heap.size + 1, 0, none⟩) 24 24, .slice (some ⟨w.heap.size + 1 + 1, 0, none⟩) 1 1] 26)).alloc (.cells ((kN 1).map (Value.int .u32)).toArray 38)) [.int .u32 65537]).alloc (.cells ((kD 1).map (Value.int .u32)).toArray 38)
  have k3 := Blk.new 38 (((w.alloc (.cells #[.slice (some ⟨w.heap.size + 1, 0, none⟩) 24 24, .slice (some ⟨w.heap.size + 1 + 1, 0, none⟩) 1 1] 26)).alloc (.cells ((kN 1).map (Value.int .u32)).toArray 38)).alloc (.cells #[.int .u32 65537] 38)) ((kD 1).map (Value.int .u32))
  have hbw := (((al1 (w := w) (.cells #[.slice (some ⟨w.heap.size + 1, 0, none⟩) 24 24, .slice (some ⟨w.heap.size + 1 + 1, 0, none⟩) 1 1] 26)).alloc (by simp) (.cells ((kN 1).map (Value.int .u32)).toArray 38)).alloc (by simp; omega) (.cells #[.int .u32 65537] 38)).alloc (by simp; omega) (.cells ((kD 1).map (Value.int .u32)).toArray 38)
  simp only [World.size_alloc] at k1 k2 k3
  refine bodyPost_ret (v := .tuple #[.agg #[.slice (some ⟨w.heap.size + 1, 0, none⟩) 24 24, .slice (some ⟨w.heap.size + 1 + 1, 0, none⟩) 1 1], .slice (some ⟨w.heap.size + 1 + 1 + 1, 0, none⟩) 24 24]) ?_ rfl ⟨_, _, _, _, _, _, rfl, ?_, ?_, ?_, hbw⟩
  · rw [results_cell_tmp rfl]
    have e := run_loadVar_mid (P := Tryz.prog) _ w.heap.size 0 26 _ _ k0.whole Tryz.underlying26 rfl (by kernel_rfl)
    have e0 : ∀ W : World, (asAddr (.pointer (some ⟨w.heap.size, 0, none⟩))).run Tryz.prog W = .ok ⟨w.heap.size, 0, none⟩ W := fun W => rfl
    show Result.andThen ((asAddr (.pointer (some ⟨w.heap.size, 0, none⟩))).run Tryz.prog _) _ = _
    rw [e0]
    simp only [Result.andThen_ok]
    exact congrArg (fun r => Result.andThen r _) e
  · exact (show Arr .u32 38 _ (w.heap.size + 1) (kN 1) from k1).sl
  · exact (show Arr .u32 38 _ (w.heap.size + 1 + 1) (kE 1) from k2).sl
  · exact (show Arr .u32 38 _ (w.heap.size + 1 + 1 + 1) (kD 1) from k3).sl
set_option maxHeartbeats 2000000 in
theorem Known_2 {w : World} : Calls Tryz.prog 5 #[.int .i64 2] w fun e w' => KnAns 2 w e w' := by
  go_enter Tryz.func5, Tryz.ntmps5
  go_wp2
  have k0 := (((Blk.new 26 w [.slice (some ⟨w.heap.size + 1, 0, none⟩) 32 32, .slice (some ⟨w.heap.size + 1 + 1, 0, none⟩) 1 1]).alloc (.cells ((kN 2).map (Value.int .u32)).toArray 38)).alloc (.cells #[.int .u32 65537] 38)).alloc (.cells ((kD 2).map (Value.int .u32)).toArray 38)
  have k1 := ((Blk.new 38 (w.alloc (.cells #[.slice (some ⟨w.heap.size + 1, 0, none⟩) 32 32, .slice (some ⟨w.heap.size + 1 + 1, 0, none⟩) 1 1] 26)) ((kN 2).map (Value.int .u32))).alloc (.cells #[.int .u32 65537] 38)).alloc (.cells ((kD 2).map (Value.int .u32)).toArray 38)
  have k2 := (Blk.new 38 ((w.alloc (.cells #[.slice (some ⟨w.heap.size + 1, 0, none⟩) 32 32, .slice (some ⟨w.heap.size + 1 + 1, 0, none⟩) 1 1] 26)).alloc (.cells ((kN 2).map (Value.int .u32)).toArray 38)) [.int .u32 65537]).alloc (.cells ((kD 2).map (Value.int .u32)).toArray 38)
  have k3 := Blk.new 38 (((w.alloc (.cells #[.slice (some ⟨w.heap.size + 1, 0, none⟩) 32 32, .slice (some ⟨w.heap.size + 1 + 1, 0, none⟩) 1 1] 26)).alloc (.cells ((kN 2).map (Value.int .u32)).toArray 38)).alloc (.cells #[.int .u32 65537] 38)) ((kD 2).map (Value.int .u32))
  have hbw := (((al1 (w := w) (.cells #[.slice (some ⟨w.heap.size + 1, 0, none⟩) 32 32, .slice (some ⟨w.heap.size + 1 + 1, 0, none⟩) 1 1] 26)).alloc (by simp) (.cells ((kN 2).map (Value.int .u32)).toArray 38)).alloc (by simp; omega) (.cells #[.int .u32 65537] 38)).alloc (by simp; omega) (.cells ((kD 2).map (Value.int .u32)).toArray 38)
  simp only [World.size_alloc] at k1 k2 k3
  refine bodyPost_ret (v := .tuple #[.agg #[.slice (some ⟨w.heap.size + 1, 0, none⟩) 32 32, .slice (some ⟨w.heap.size + 1 + 1, 0, none⟩) 1 1], .slice (some ⟨w.heap.size + 1 + 1 + 1, 0, none⟩) 32 32]) ?_ rfl ⟨_, _, _, _, _, _, rfl, ?_, ?_, ?_, hbw⟩
  · rw [results_cell_tmp rfl]
    have e := run_loadVar_mid (P := Tryz.prog) _ w.heap.size 0 26 _ _ k0.whole Tryz.underlying26 rfl (by kernel_rfl)
    have e0 : ∀ W : World, (asAddr (.pointer (some ⟨w.heap.size, 0, none⟩))).run Tryz.prog W = .ok ⟨w.heap.size, 0, none⟩ W := fun W => rfl
    show Result.andThen ((asAddr (.pointer (some ⟨w.heap.size, 0, none⟩))).run Tryz.prog _) _ = _
    rw [e0]
    simp only [Result.andThen_ok]
    exact congrArg (fun r => Result.andThen r _) e
  · exact (show Arr .u32 38 _ (w.heap.size + 1) (kN 2) from k1).sl
  · exact (show Arr .u32 38 _ (w.heap.size + 1 + 1) (kE 2) from k2).sl
  · exact (show Arr .u32 38 _ (w.heap.size + 1 + 1 + 1) (kD 2) from k3).sl
theorem Known_any {w : World} (i : Nat) (hi : i < 3) : Calls Tryz.prog 5 #[.int .i64 (i : Nat)] w fun e w' => KnAns i w e w' := by
  match i, hi with
  | 0, _ => exact Known_0
  | 1, _ => exact Known_1
  | 2, _ => exact Known_2
set_option maxHeartbeats 4000000 in
theorem power_any {w : World} {ns es ds : List Int} {nn e d sz : Nat} (K : KeyG ns es ds nn e d sz) (a a' : Option Addr) (n c n' c' : Nat) (hn : Sl .u32 w (.slice a n c) ns) (ln : ns.length = n) (he : Sl .u32 w (.slice a' n' c') es) (le : es.length = n') (vd : Value) (hd : Sl .u32 w vd ds) (vz : Value) (Z : List Int) (hZ : Sl .u8 w vz Z) (uZ : U8s Z) (lZ : Z.length = sz) :
    Calls Tryz.prog 21 #[.agg #[.slice a n c, .slice a' n' c'], vd, vz] w fun e' w' => ∃ r, e' = .returned r ∧ Sl .u8 w' r (sgS nn d sz Z) ∧ Below w.heap.size w w' := by
  have s1 := K.s1
  have lens := K.len
  have n0 : 0 < nn := Nat.lt_of_lt_of_le (Nat.pow_pos (by decide)) K.lo
  have lz : (lim (bn Z)).length ≤ 512 := bv_len uZ (by omega)
  have HF : Hid (∀ W, Below w.heap.size w W → Calls Tryz.prog 44 #[vz] W fun e w' => ∃ r, e = .returned (.tuple #[r, .int .i64 0]) ∧ Sl .u32 w' r (lim (bn Z)) ∧ Below W.heap.size W w') := fun W h => (Nt.RFromBytes_any Z vz W (below_sl h hZ) (fun x hx => uZ x hx)).mono fun e w' ⟨⟨r, h1, h2⟩, h3⟩ => by
    rw [from_ok (by omega)] at h1 h2
    exact ⟨r, h1, h2, h3⟩
  have HX : Hid (∀ W r, Below w.heap.size w W → Sl .u32 W r (lim (bn Z)) → Calls Tryz.prog 45 #[r, vd, .slice a n c] W fun e w' => ∃ q, e = .returned (.tuple #[q, .int .i64 0]) ∧ Sl .u32 w' q (lim (bn Z ^ d % nn)) ∧ Below W.heap.size W w') := fun W r h h1 => (Nt.RExpMod_any (lim (bn Z)) ds ns r vd _ W h1 (below_sl h hd) (below_sl h hn) (lim_u32 _) K.ud K.un).mono fun e w' ⟨⟨q, h2, h3⟩, h4⟩ => by
    have hx : Nt.expS (lim (bn Z)) ds ns = (lim (bn Z ^ d % nn), 0) := by
      unfold Nt.expS
      have hl : ¬ Nt.expLong (lim (bn Z)) ds ns := by
        unfold Nt.expLong
        omega
      rw [if_neg hl, K.vn, K.vd, val_lim, Int.toNat_natCast, ← Int.natCast_pow, if_neg (by omega), ← Int.natCast_emod]
      rfl
    rw [hx] at h2 h3
    exact ⟨q, h2, h3, h4⟩
  have HS : Hid (∀ W, Below w.heap.size w W → Calls Tryz.prog 47 #[.agg #[.slice a n c, .slice a' n' c']] W fun e w' => e = .returned (.int .i64 (sz : Nat)) ∧ Below W.heap.size W w') := fun W h => (RSize_any a a' n c n' c' ns es (below_sl h hn) K.un ln (below_sl h he) K.ue le (by omega) (by omega) (bts_le K.un (by omega))).mono fun e w' h' => by rw [K.ksz] at h'; exact h'
  have HB : Hid (∀ W q, Sl .u32 W q (lim (bn Z ^ d % nn)) → Calls Tryz.prog 46 #[q, .int .i64 (sz : Nat)] W fun e w' => ∃ r, e = .returned (.tuple #[r, .int .i64 0]) ∧ Sl .u8 w' r (sgS nn d sz Z) ∧ Below W.heap.size W w') := fun W q h => (Nt.RBytes_any (lim (bn Z ^ d % nn)) sz q W h (lim_u32 _) (by omega) (by omega)).mono fun e w' ⟨⟨r, h1, h2⟩, h3⟩ => by
    rw [bytS_beb s1.2 (Nat.lt_of_lt_of_le (Nat.mod_lt _ n0) K.hi)] at h1 h2
    exact ⟨r, h1, h2, h3⟩
  clear hd hZ uZ lZ he s1 lens lz K n0 ln le hn
  go_enter Tryz.func21, Tryz.ntmps21
  go_upto_region 1 with (refine wpList_boxR rfl 26 (.tmp 0) rfl #[.slice a n c, .slice a' n' c'] rfl ?_)
  refine wp_gen (fun W => Below w.heap.size w W ∧ Blk 26 W w.heap.size [.slice a n c, .slice a' n' c']) ⟨al1 _, Blk.new _ _ _⟩ ?_
  rintro W0 hW
  have M0 : Hid (Below w.heap.size w W0 ∧ Blk 26 W0 w.heap.size [.slice a n c, .slice a' n' c']) := hW
  clear hW
  go_wp2_with fail
  refine (HF.out _ M0.out.1).mono ?_
  rintro e' W1 ⟨r1, rfl, h1, hb⟩
  have M1 : Hid (Below w.heap.size w W1 ∧ Blk 26 W1 w.heap.size [.slice a n c, .slice a' n' c'] ∧ Sl .u32 W1 r1 (lim (bn Z))) := ⟨below_via M0.out.1 hb (Nat.le_refl _), below_blk hb M0.out.2.lt M0.out.2, h1⟩
  clear h1 hb M0
  have p0 : W1.cell? ⟨w.heap.size, 0, none⟩ = some (.slice a n c) := M1.out.2.1.cell 0
  go_wp2_with fail
  refine (HX.out _ r1 M1.out.1 M1.out.2.2).mono ?_
  rintro e' W2 ⟨r2, rfl, h1, hb⟩
  have M2 : Hid (Below w.heap.size w W2 ∧ Blk 26 W2 w.heap.size [.slice a n c, .slice a' n' c'] ∧ Sl .u32 W2 r2 (lim (bn Z ^ d % nn))) := ⟨below_via M1.out.1 hb (Nat.le_refl _), below_blk hb M1.out.2.1.lt M1.out.2.1, h1⟩
  clear h1 hb M1 p0
  have p0 : W2.cell? ⟨w.heap.size, 0, none⟩ = some (.slice a n c) := M2.out.2.1.cell 0
  have p1 : W2.cell? ⟨w.heap.size, 1, none⟩ = some (.slice a' n' c') := M2.out.2.1.cell 1
  go_wp2_with fail
  refine (HS.out _ M2.out.1).mono ?_
  rintro e' W3 ⟨rfl, hb⟩
  have M3 : Hid (Below w.heap.size w W3 ∧ Sl .u32 W3 r2 (lim (bn Z ^ d % nn))) := ⟨below_via M2.out.1 hb (Nat.le_refl _), below_sl hb M2.out.2.2⟩
  clear hb M2 p0 p1
  go_wp2_with fail
  refine (HB.out _ r2 M3.out.2).mono ?_
  rintro e' W4 ⟨r4, rfl, h1, hb⟩
  have M4 : Hid (Below w.heap.size w W4 ∧ Sl .u8 W4 r4 (sgS nn d sz Z)) := ⟨below_via M3.out.1 hb (Nat.le_refl _), h1⟩
  clear h1 hb M3
  go_wp2
  go_ret
  exact ⟨_, rfl, M4.out.2, M4.out.1⟩
end Go.Proofs.YtjmiaakfdclfjaaGreatDoor
/-
  Rsa: the reference's Verify; the law RsaVerifies.
-/
namespace Go.Proofs.YtjmiaakfdclfjaaGreatDoor
open Go.RowKit
set_option maxRecDepth 20000
end Go.Proofs.YtjmiaakfdclfjaaGreatDoor
/-
  Digest: New.
-/
namespace Go.Proofs.YtjmiaakfdclfjaaGreatDoor.Sh
open Go.RowKit
set_option maxRecDepth 20000
theorem wpList_buildW {P : Program} {ops : Array Oper} {rest : List Oper} {o : Oper} {a : Act} {w : World} {Q : Exit → Act → World → Prop} (hg : o.guard = none) (t : TypeId) (x : Operand) (ho : o.op = .build t #[(0, x)]) (cells : Array Value) (hx : a.eval x = .agg cells)
    (hr : ∀ w : World, (Instr.build t #[(0, .agg cells)]).run P w = .ok (.agg cells) w)
    (h : wpList P ops Q rest (a.put o.dst (.agg cells)) w) : wpList P ops Q (o :: rest) a w := by
  refine wpList_plain hg fun K hK => ?_
  unfold Oper.wp execOp
  have e : (#[(0, x)] : Array (Nat × Operand)).map (fun p => (p.1, a.eval p.2)) = #[(0, Value.agg cells)] := by simp [hx]
  simp only [ho, e, Sem.run_bind, hr, Sem.run_pure, Result.andThen_ok]
  exact hK _ _ h
theorem Tryz.zeroH : ((Tryz.prog.info? 117).bind (·.zero)).map (fun v => v.cells.size) = some 146 := by kernel_rfl
theorem build_hash (w : World) (cs : Array Value) (h : cs.size = 146) : (Instr.build 117 #[(0, .agg cs)]).run Tryz.prog w = .ok (.agg cs) w := by
  cases hq : Tryz.prog.info? 117 with
  | none => have := Tryz.zeroH; simp [hq] at this
  | some i =>
    cases hz : i.zero with
    | none => have := Tryz.zeroH; simp [hq, hz] at this
    | some v =>
      have hv : v.cells.size = 146 := by have := Tryz.zeroH; simpa [hq, hz] using this
      cases hs : Tryz.prog.info? 95 with
      | none => have := Tryz.sizeH; simp [hs] at this
      | some j =>
        have hj : j.size = 146 := by have := Tryz.sizeH; simpa [hs] using this
        have hfl := fill_one (fun k => ([(0, 146)] : List (Nat × Nat))[k]?) v.cells cs (by simp [h]) (by rw [hv, h])
        simp [Instr.build, Sem.run_bind, zeroValue, typeInfo, hq, hz, sizeOf, hs, hj, hfl]
set_option maxHeartbeats 1000000 in
theorem New_any {w : World} (alg : Int) (ha : Alg alg) (hT : Tabs w) : Calls Tryz.prog 55 #[.int .i64 alg] w fun e w' => ∃ g, e = .returned (.tuple #[.pointer (some ⟨g, 0, none⟩), .int .i64 0]) ∧ w.heap.size ≤ g ∧ HashIs w' g alg [] ∧ Below w.heap.size w w' := by
  have HBl : Hid (∀ w' : World, Calls Tryz.prog 80 #[.int .i64 alg] w' fun e w'' => e = .returned (.int .i64 (blk alg)) ∧ w' = w'') := fun w' => (Block_any alg).mono fun _ _ h => ⟨h.1, h.2.symm⟩
  have hb0 := blk_alg ha
  have HS : Hid (∀ w', w' = w → Calls Tryz.prog _ _ w' _) := fun w' hw => by rw [hw]; exact Start_any alg ha hT
  have hcs : (Hs.start alg).cells.length = 146 := Hs.cells_len (by simp [Hs.start, Hs.empty])
  have HBu : Hid (∀ w : World, (Instr.build 117 #[(0, .agg (Hs.start alg).cells.toArray)]).run Tryz.prog w = .ok (.agg (Hs.start alg).cells.toArray) w) := fun w => build_hash w _ (by simp [hcs])
  have HA : Hid (Alg alg) := ha
  clear hT hcs
  go_enter Tryz.func55, Tryz.ntmps55
  go_wp2_with (first
    | (go_at_call 80; refine (HBl.out _).mono ?_; rintro e w' ⟨rfl, rfl⟩)
    | (go_at_call 59; refine (HS.out _ rfl).mono ?_; rintro e w2 ⟨rfl, hB2⟩; have HB2 : Hid (Below w.heap.size w w2) := hB2; clear hB2)
    | (refine wpList_buildW rfl 117 (.tmp 8) rfl (Hs.start alg).cells.toArray rfl HBu.out ?_)
    | (refine wpList_boxR rfl 117 (.tmp 9) rfl (Hs.start alg).cells.toArray rfl ?_))
  go_ret2
  exact ⟨_, rfl, HB2.out.size, ⟨_, _, Blk.new _ w2 _, Hs.start_ok HA.out, Hs.start_inv alg⟩, HB2.out.alloc HB2.out.size _⟩
end Go.Proofs.YtjmiaakfdclfjaaGreatDoor.Sh
/-
  Digest: Sum of lists.
-/
namespace Go.Proofs.YtjmiaakfdclfjaaGreatDoor.Sh
open Go.RowKit
set_option maxRecDepth 20000
/-- The slice v holds the values vs. -/
def SlS (w : World) (v : Value) (vs : List Value) : Prop :=
  ∃ a c, v = .slice a vs.length c ∧ vs.length ≤ c ∧ (vs = [] ∨ ∃ b off, a = some ⟨b, off, none⟩ ∧ b < w.heap.size ∧ ∀ i, i < vs.length → w.cell? ⟨b, off + i, none⟩ = some (vs.getD i undef))
/-- The values are slices that read the lists. -/
def Msgs (w : World) (vs : List Value) (ms : List (List Int)) : Prop := vs.length = ms.length ∧ ∀ i, i < vs.length → Sl .u8 w (vs.getD i undef) (ms.getD i []) ∧ U8s (ms.getD i [])
theorem Msgs.below {w w' : World} {vs : List Value} {ms : List (List Int)} (h : Msgs w vs ms) (hb : Below w.heap.size w w') : Msgs w' vs ms := ⟨h.1, fun i hi => ⟨below_sl hb (h.2 i hi).1, (h.2 i hi).2⟩⟩
theorem SlS.below {w w' : World} {v : Value} {vs : List Value} (h : SlS w v vs) (hb : Below w.heap.size w w') : SlS w' v vs := by
  obtain ⟨a, c, rfl, hc, h⟩ := h
  refine ⟨a, c, rfl, hc, ?_⟩
  rcases h with h | ⟨b, off, rfl, hbl, hr⟩
  · exact .inl h
  · exact .inr ⟨b, off, rfl, Nat.lt_of_lt_of_le hbl hb.size, fun i hi => (hb.cell (p := ⟨b, off + i, none⟩) hbl).trans (hr i hi)⟩
theorem Sl.x {w w' : World} {v : Value} {xs : List Int} (h : Sl .u8 w v xs) (hb : Below w.heap.size w w') : SlX w' w.heap.size v xs := by
  obtain ⟨a, c, rfl, hc, h⟩ := h
  refine ⟨a, c, rfl, hc, ?_⟩
  rcases h with h | ⟨b, off, rfl, hbl, hr⟩
  · exact .inl h
  · exact .inr ⟨b, off, rfl, Nat.lt_of_lt_of_le hbl hb.size, by omega, below_rd hb hbl hr⟩
theorem flatten_u8 {ms : List (List Int)} (h : ∀ i, i < ms.length → U8s (ms.getD i [])) : U8s ms.flatten := by
  intro x hx
  obtain ⟨l, hl, hxl⟩ := List.mem_flatten.1 hx
  obtain ⟨i, hi, rfl⟩ := List.mem_iff_getElem.1 hl
  have := h i hi
  simp [hi] at this
  exact this x hxl
theorem flatten_take {ms : List (List Int)} {i : Nat} (hi : i < ms.length) : (ms.take (i + 1)).flatten = (ms.take i).flatten ++ ms.getD i [] := by
  rw [List.take_succ_eq_append_getElem hi, List.flatten_append, List.getD_eq_getElem?_getD, List.getElem?_eq_getElem hi]
  simp only [List.flatten_cons, List.flatten_nil, List.append_nil, Option.getD_some]
theorem flatten_take_le (ms : List (List Int)) (i : Nat) : (ms.take i).flatten.length ≤ ms.flatten.length := by
  have h : ms.flatten = (ms.take i).flatten ++ (ms.drop i).flatten := by rw [← List.flatten_append, List.take_append_drop]
  rw [h, List.length_append]; omega
set_option maxHeartbeats 1000000 in
theorem Sum_any {w : World} (alg : Int) (ha : Alg alg) (hT : Tabs w) (v : Value) (vs : List Value) (ms : List (List Int)) (hv : SlS w v vs) (hm : Msgs w vs ms) (hn : ms.flatten.length ≤ 16777216) (hk : ms.length ≤ 1152921504606846976) :
    Calls Tryz.prog 31 #[.int .i64 alg, v] w fun e w' => ∃ d, e = .returned (.tuple #[.slice (some ⟨d, 0, none⟩) (siz alg) (siz alg), .int .i64 0]) ∧ w.heap.size ≤ d ∧ Arr .u8 5 w' d (dig alg ms.flatten) ∧ Below w.heap.size w w' := by
  obtain ⟨a, c, rfl, hc, hv⟩ := hv
  have HM : Hid (Msgs w vs ms ∧ Tabs w) := ⟨hm, hT⟩
  have hl := hm.1
  have hz7 := hT.size
  have HU : Hid (U8s ms.flatten) := flatten_u8 (fun i hi => (hm.2 i (by omega)).2)
  obtain ⟨k, hke⟩ : ∃ k, vs.length = k := ⟨_, rfl⟩
  rw [hke] at hc hl
  have HV : Hid (vs = [] ∨ ∃ b off, a = some ⟨b, off, none⟩ ∧ b < w.heap.size ∧ ∀ i, i < k → w.cell? ⟨b, off + i, none⟩ = some (vs.getD i undef)) := by rw [← hke]; exact hv
  simp only [hke]
  clear hm hT hv
  go_enter Tryz.func31, Tryz.ntmps31
  go_wp2_with (go_at_call 55; refine (New_any alg ha HM.out.2).mono ?_; rintro e w1 ⟨g1, rfl, hg1, hh1, hb1⟩; have HH1 : Hid (HashIs w1 g1 alg [] ∧ Below w.heap.size w w1) := ⟨hh1, hb1⟩; clear hh1 hb1)
  go_loopw [21] (fun iv wr => ∃ i : Nat, iv = .int .i64 i ∧ i ≤ k ∧ HashIs wr g1 alg (ms.take i).flatten ∧ Below w.heap.size w wr) (fun iv _ => k - (intOf iv).toNat)
  case atStart => exact ⟨0, rfl, by omega, HH1.out⟩
  case round =>
    obtain ⟨i, rfl, hi, hH, hBw⟩ := hrel
    by_cases hlt : i < k
    · rcases HV.out with hnil | ⟨b, off, rfl, hbl, hcell⟩
      · rw [hnil] at hke; simp at hke; omega
      · have hci := hcell i hlt
        obtain ⟨hsl, hu8⟩ := HM.out.1.2 i (by omega)
        have hx := Sl.xg hsl hBw hg1
        have hxl : (ms.getD i []).length ≤ ms.flatten.length ∧ (ms.take i).flatten.length + (ms.getD i []).length ≤ ms.flatten.length := by
          have := flatten_take_le ms (i + 1); rw [flatten_take (by omega), List.length_append] at this; omega
        have HW : Hid (∀ w', w' = wr → Calls Tryz.prog _ _ w' _) := fun w' hw => by
          rw [hw]; exact Write_any (w := wr) g1 alg ha (ms.take i).flatten (ms.getD i []) hH (by omega) (HM.out.2.below hBw) _ hx (fun x hx => by obtain ⟨l, h1, h2⟩ := List.mem_flatten.1 hx; exact HU.out x (List.mem_flatten.2 ⟨l, List.mem_of_mem_take h1, h2⟩)) hu8 (by omega) (by omega) (by omega)
        have hcr : wr.cell? ⟨b, off + i, none⟩ = some (vs.getD i undef) := by rw [hBw.cell (p := ⟨b, off + i, none⟩) hbl]; exact hci
        obtain ⟨ai, ci, hvi, _, _⟩ := hsl
        rw [hvi] at hcr HW
        have hft : (ms.take (i + 1)).flatten = (ms.take i).flatten ++ ms.getD i [] := flatten_take (by omega)
        obtain ⟨m, hme⟩ : ∃ m, ms.getD i [] = m := ⟨_, rfl⟩
        obtain ⟨P0, hP0⟩ : ∃ m, (ms.take i).flatten = m := ⟨_, rfl⟩
        rw [hme] at hcr hft
        rw [hP0] at hft
        simp only [hme, hP0] at HW
        obtain ⟨n, hne⟩ : ∃ n, m.length = n := ⟨_, rfl⟩
        rw [hne] at hcr HW
        have HN : Hid (Below w.heap.size w wr ∧ (ms.take (i + 1)).flatten = P0 ++ m) := ⟨hBw, hft⟩
        clear hft hne hme hP0
        clear hci hx hvi hcell hH hBw hxl
        have hiI : (i : Int) < (k : Int) := by omega
        go_wp2_with (go_at_call 56; refine (HW.out _ rfl).mono ?_; rintro e w2 ⟨rfl, hh2, hu2⟩; have HH2 : Hid (HashIs w2 g1 alg (P0 ++ m) ∧ Upd wr w2 g1) := ⟨hh2, hu2⟩; clear hh2 hu2)
        go_roundw
        case rel =>
          exact ⟨i + 1, by go_num, by omega, by rw [HN.out.2]; exact HH2.out.1, HH2.out.2.below HN.out.1 HN.out.1.size hg1⟩
        case measure => simp [intOf]; omega
    · obtain rfl : i = k := by omega
      have e : ms.take i = ms := List.take_of_length_le (by omega)
      rw [e] at hH
      have HN : Hid (HashIs wr g1 alg ms.flatten ∧ Below w.heap.size w wr) := ⟨hH, hBw⟩
      clear e hH hBw
      go_wp2_with (go_at_call 57; refine (SumM_any g1 alg ha ms.flatten HN.out.1 (HM.out.2.below HN.out.2) HU.out hn).mono ?_; rintro e w2 ⟨d, rfl, hd, hA, hb2⟩; have HF : Hid (w.heap.size ≤ d ∧ Arr .u8 5 w2 d (dig alg ms.flatten) ∧ Below w.heap.size w w2) := ⟨Nat.le_trans HN.out.2.size hd, hA, HN.out.2.trans (hb2.mono HN.out.2.size)⟩; clear hA hb2)
      go_ret2
      exact ⟨d, rfl, HF.out⟩
end Go.Proofs.YtjmiaakfdclfjaaGreatDoor.Sh
/-
  Digest: SameBytes, num; known digests.
-/
namespace Go.Proofs.YtjmiaakfdclfjaaGreatDoor.Sh
open Go.RowKit
set_option maxRecDepth 20000
end Go.Proofs.YtjmiaakfdclfjaaGreatDoor.Sh
/-
  Digest: live: the page's example.
-/
namespace Go.Proofs.YtjmiaakfdclfjaaGreatDoor.Sh
open Go.RowKit
set_option maxRecDepth 20000
theorem arr_newB {k : IntKind} {e : TypeId} {w : World} {S : List Int} {cs : List Value} (h : cs = S.map (Value.int k)) : Arr k e (w.alloc (.cells cs.toArray e)) w.heap.size S := by subst h; exact Blk.new e w _
theorem Arr.sl {k : IntKind} {e : TypeId} {w : World} {b : Nat} {S : List Int} (h : Arr k e w b S) : Sl k w (.slice (some ⟨b, 0, none⟩) S.length S.length) S :=
  ⟨_, _, rfl, Nat.le_refl _, .inr ⟨b, 0, rfl, h.lt, by have := h.rd 0 S.length (by omega); simpa using this⟩⟩
theorem Blk.sls {T : TypeId} {w : World} {b : Nat} {vs : List Value} (h : Blk T w b vs) : SlS w (.slice (some ⟨b, 0, none⟩) vs.length vs.length) vs :=
  ⟨_, _, rfl, Nat.le_refl _, .inr ⟨b, 0, rfl, h.lt, fun i hi => by rw [h.cell]; simp [hi]⟩⟩
theorem Tryz.e8 : Tryz.prog.underlying 5 = some (.int .u8) := by kernel_rfl
theorem Tryz.str : Tryz.prog.underlying 9 = some .string := by kernel_rfl
/-- A new row of numbers, marked or not, reads them. -/
theorem new_sl {k : IntKind} {e : TypeId} {w : World} (S : List Int) (fr : Nat × Nat) : Sl k (w.alloc (.cells (S.map (Value.int k)).toArray e fr)) (.slice (some ⟨w.heap.size, 0, none⟩) S.length S.length) S :=
  ⟨_, _, rfl, Nat.le_refl _, .inr ⟨w.heap.size, 0, rfl, by simp, fun i hi => by
    rw [cell_of_row _ _ _ (S.map (Value.int k)).toArray e fr (heap_alloc_new _ _)]
    simp [hi]⟩⟩
end Go.Proofs.YtjmiaakfdclfjaaGreatDoor.Sh
/-
  Digest: the law DigestApart: two digests under way know nothing of one another.
-/
namespace Go.Proofs.YtjmiaakfdclfjaaGreatDoor.Sh
open Go.RowKit
set_option maxRecDepth 20000
/-- A digest in a block of its own, from B on. -/
def Dg (B : Nat) (w : World) (v : Value) (xs : List Int) : Prop := ∃ d n, v = .slice (some ⟨d, 0, none⟩) n n ∧ xs.length = n ∧ B ≤ d ∧ Arr .u8 5 w d xs
theorem Dg.sl {B : Nat} {w : World} {v : Value} {xs : List Int} (h : Dg B w v xs) : Sl .u8 w v xs := by
  obtain ⟨d, n, rfl, rfl, _, hA⟩ := h; exact Arr.sl hA
theorem Dg.below {B : Nat} {w w' : World} {v : Value} {xs : List Int} (h : Dg B w v xs) (hb : Below w.heap.size w w') : Dg B w' v xs := by
  obtain ⟨d, n, rfl, hn, hB, hA⟩ := h; exact ⟨d, n, rfl, hn, hB, below_arr hb hA.lt hA⟩
theorem al1 {w : World} (o : Obj) : Below w.heap.size w (w.alloc o) := (Below.refl _ _).alloc (Nat.le_refl _) o
theorem below_via {B : Nat} {w w1 w2 : World} (h : Below B w w1) (h' : Below w1.heap.size w1 w2) (hB : B ≤ w.heap.size) : Below B w w2 := h.trans (h'.mono (Nat.le_trans hB h.size))
end Go.Proofs.YtjmiaakfdclfjaaGreatDoor.Sh
/-
  Digest: the reference's left, right, turn, filled.
-/
namespace Go.Proofs.YtjmiaakfdclfjaaGreatDoor.Sh
open Go.RowKit
set_option maxRecDepth 20000
theorem bits_or_comm (k : IntKind) (x y : Int) : bits .or k x y = bits .or k y x := by unfold bits; simp only []; rw [BitVec.or_comm]

set_option maxHeartbeats 1000000 in
theorem left_nat {w : World} (x : Int) (n : Nat) (hx : U32 x) (h1 : 1 ≤ n) (h2 : n ≤ 31) :
    Calls Tryz.prog 38 #[.int .u32 x, .int .i64 n] w fun e w' => e = .returned (.int .u32 (rot32 x n)) ∧ ∃ q, w' = w.drewN q := by
  obtain ⟨hx0, hx1⟩ := hx
  obtain ⟨m, hm⟩ : ∃ m, 32 - n = m := ⟨_, rfl⟩
  have hmI : (32 : Int) - (n : Int) = (m : Int) := by omega
  have HV : Hid (rot32 x n = bits .or .u32 (IntKind.u32.wrap (x * 2 ^ n)) (x / 2 ^ m)) := by unfold rot32; rw [hm]; rfl
  have hm0 : m ≤ 32 := by omega
  clear hm
  go_enter Tryz.func38, Tryz.ntmps38
  go_wp2
  go_quiet (fail)
  go_wp2
  go_ret
  exact ⟨by rw [HV.out]; rfl, _, rfl⟩
theorem left_I (x n : Int) (w : World) (hx : U32 x) (h : 1 ≤ n ∧ n ≤ 31) :
    Calls Tryz.prog 38 #[.int .u32 x, .int .i64 n] w fun e w' => e = .returned (.int .u32 (rot32 x n.toNat)) ∧ ∃ q, w' = w.drewN q := by
  obtain ⟨n, rfl⟩ := Int.eq_ofNat_of_zero_le (show 0 ≤ n by omega)
  rw [Int.toNat_natCast]
  exact left_nat x n hx (by omega) (by omega)

set_option maxHeartbeats 1000000 in
theorem right_nat {w : World} (x : Int) (n : Nat) (hx : U32 x) (h1 : 1 ≤ n) (h2 : n ≤ 31) :
    Calls Tryz.prog 40 #[.int .u32 x, .int .i64 n] w fun e w' => e = .returned (.int .u32 (rot32 x (32 - n))) ∧ ∃ q, w' = w.drewN q := by
  obtain ⟨hx0, hx1⟩ := hx
  obtain ⟨m, hm⟩ : ∃ m, 32 - n = m := ⟨_, rfl⟩
  have hmI : (32 : Int) - (n : Int) = (m : Int) := by omega
  have HV : Hid (rot32 x (32 - n) = bits .or .u32 (x / 2 ^ n) (IntKind.u32.wrap (x * 2 ^ m))) := by unfold rot32; rw [hm, show 32 - m = n by omega]; exact bits_or_comm _ _ _
  have hm0 : m ≤ 32 := by omega
  clear hm
  go_enter Tryz.func40, Tryz.ntmps40
  go_wp2
  go_quiet (fail)
  go_wp2
  go_ret
  exact ⟨by rw [HV.out]; rfl, _, rfl⟩
theorem right_I (x n : Int) (w : World) (hx : U32 x) (h : 1 ≤ n ∧ n ≤ 31) :
    Calls Tryz.prog 40 #[.int .u32 x, .int .i64 n] w fun e w' => e = .returned (.int .u32 (rot32 x (32 - n.toNat))) ∧ ∃ q, w' = w.drewN q := by
  obtain ⟨n, rfl⟩ := Int.eq_ofNat_of_zero_le (show 0 ≤ n by omega)
  rw [Int.toNat_natCast]
  exact right_nat x n hx (by omega) (by omega)

set_option maxHeartbeats 1000000 in
theorem turn_nat {w : World} (x : Int) (n : Nat) (hx : U64 x) (h1 : 1 ≤ n) (h2 : n ≤ 63) :
    Calls Tryz.prog 42 #[.int .u64 x, .int .i64 n] w fun e w' => e = .returned (.int .u64 (rot64 x (64 - n))) ∧ ∃ q, w' = w.drewN q := by
  obtain ⟨hx0, hx1⟩ := hx
  obtain ⟨m, hm⟩ : ∃ m, 64 - n = m := ⟨_, rfl⟩
  have hmI : (64 : Int) - (n : Int) = (m : Int) := by omega
  have HV : Hid (rot64 x (64 - n) = bits .or .u64 (x / 2 ^ n) (IntKind.u64.wrap (x * 2 ^ m))) := by unfold rot64; rw [hm, show 64 - m = n by omega]; exact bits_or_comm _ _ _
  have hm0 : m ≤ 64 := by omega
  clear hm
  go_enter Tryz.func42, Tryz.ntmps42
  go_wp2
  go_quiet (fail)
  go_wp2
  go_ret
  exact ⟨by rw [HV.out]; rfl, _, rfl⟩
theorem turn_I (x n : Int) (w : World) (hx : U64 x) (h : 1 ≤ n ∧ n ≤ 63) :
    Calls Tryz.prog 42 #[.int .u64 x, .int .i64 n] w fun e w' => e = .returned (.int .u64 (rot64 x (64 - n.toNat))) ∧ ∃ q, w' = w.drewN q := by
  obtain ⟨n, rfl⟩ := Int.eq_ofNat_of_zero_le (show 0 ≤ n by omega)
  rw [Int.toNat_natCast]
  exact turn_nat x n hx (by omega) (by omega)
end Go.Proofs.YtjmiaakfdclfjaaGreatDoor.Sh
