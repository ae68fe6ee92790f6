/-
  Rsa: the law RsaTurned. (wip/mky62.py)
-/
import Derived.Test.YtmfdhfdcokkclaaGreatDoorK37
namespace Go.Proofs.YtmfdhfdcokkclaaGreatDoor
open Go.RowKit
set_option maxRecDepth 20000
set_option maxHeartbeats 4000000 in
theorem power_new {w : World} {ns es ds : List Int} {nn e d sz : Nat} (K : KeyG ns es ds nn e d sz) (a a' : Option Addr) (n c n' c' : Nat) (hn : Sl .u32 w (.slice a n c) ns) (ln : ns.length = n) (he : Sl .u32 w (.slice a' n' c') es) (le : es.length = n') (vd : Value) (hd : Sl .u32 w vd ds) (vz : Value) (Z : List Int) (hZ : Sl .u8 w vz Z) (uZ : U8s Z) (lZ : Z.length = sz) :
    Calls Tryz.prog 26 #[.agg #[.slice a n c, .slice a' n' c'], vd, vz] w fun e' w' => ∃ b, e' = .returned (.slice (some ⟨b, 0, none⟩) sz sz) ∧ w.heap.size ≤ b ∧ Arr .u8 5 w' b (sgS nn d sz Z) ∧ Below w.heap.size w w' := by
  have s1 := K.s1
  have lens := K.len
  have n0 : 0 < nn := Nat.lt_of_lt_of_le (Nat.pow_pos (by decide)) K.lo
  have lz : (lim (bn Z)).length ≤ 512 := bv_len uZ (by omega)
  have HF : Hid (∀ W, Below w.heap.size w W → Calls Tryz.prog 55 #[vz] W fun e w' => ∃ r, e = .returned (.tuple #[r, .int .i64 0]) ∧ Sl .u32 w' r (lim (bn Z)) ∧ Below W.heap.size W w') := fun W h => (Nt.RFromBytes_any Z vz W (below_sl h hZ) (fun x hx => uZ x hx)).mono fun e w' ⟨⟨r, h1, h2⟩, h3⟩ => by
    rw [from_ok (by omega)] at h1 h2
    exact ⟨r, h1, h2, h3⟩
  have HX : Hid (∀ W r, Below w.heap.size w W → Sl .u32 W r (lim (bn Z)) → Calls Tryz.prog 56 #[r, vd, .slice a n c] W fun e w' => ∃ q, e = .returned (.tuple #[q, .int .i64 0]) ∧ Sl .u32 w' q (lim (bn Z ^ d % nn)) ∧ Below W.heap.size W w') := fun W r h h1 => (Nt.RExpMod_any (lim (bn Z)) ds ns r vd _ W h1 (below_sl h hd) (below_sl h hn) (lim_u32 _) K.ud K.un).mono fun e w' ⟨⟨q, h2, h3⟩, h4⟩ => by
    have hx : Nt.expS (lim (bn Z)) ds ns = (lim (bn Z ^ d % nn), 0) := by
      unfold Nt.expS
      have hl : ¬ Nt.expLong (lim (bn Z)) ds ns := by
        unfold Nt.expLong
        omega
      rw [if_neg hl, K.vn, K.vd, val_lim, Int.toNat_natCast, ← Int.natCast_pow, if_neg (by omega), ← Int.natCast_emod]
      rfl
    rw [hx] at h2 h3
    exact ⟨q, h2, h3, h4⟩
  have HS : Hid (∀ W, Below w.heap.size w W → Calls Tryz.prog 25 #[.agg #[.slice a n c, .slice a' n' c']] W fun e w' => e = .returned (.int .i64 (sz : Nat)) ∧ Below W.heap.size W w') := fun W h => (RSize_any a a' n c n' c' ns es (below_sl h hn) K.un ln (below_sl h he) K.ue le (by omega) (by omega) (bts_le K.un (by omega))).mono fun e w' h' => by rw [K.ksz] at h'; exact h'
  have HB : Hid (∀ W q, Below w.heap.size w W → Sl .u32 W q (lim (bn Z ^ d % nn)) → Calls Tryz.prog 57 #[q, .int .i64 (sz : Nat)] W fun e w' => ∃ b, e = .returned (.tuple #[.slice (some ⟨b, 0, none⟩) sz sz, .int .i64 0]) ∧ w.heap.size ≤ b ∧ Arr .u8 5 w' b (sgS nn d sz Z) ∧ Below W.heap.size W w') := fun W q hW h => by
    have hx := Nat.lt_of_lt_of_le (Nat.mod_lt (bn Z ^ d) n0) K.hi
    have hb : bitLen (bn Z ^ d % nn) ≤ 8 * sz := bitLen_lt (by rw [Nat.pow_mul]; exact hx)
    have hl : (lim (bn Z ^ d % nn)).length ≤ 512 := by
      refine lim_len_le ?_
      have : ((bn Z ^ d % nn : Nat) : Int) < ((256 ^ 128 : Nat) : Int) := Int.ofNat_lt.2 (Nat.lt_of_lt_of_le hx (Nat.pow_le_pow_right (by decide) s1.2))
      have e : ((256 ^ 128 : Nat) : Int) ≤ (4294967296 : Int) ^ 512 := by decide +kernel
      omega
    refine (Nt.RBytes_new (lim (bn Z ^ d % nn)) sz q W h (lim_u32 _) hl (by omega) (by rw [val_lim, Int.toNat_natCast]; exact hb)).mono fun e w' ⟨⟨b, h1, h2, h3⟩, h4⟩ => ?_
    rw [val_lim] at h3
    exact ⟨b, h1, Nat.le_trans hW.size h2, h3, h4⟩
  clear hd hZ uZ lZ he s1 lens lz K n0 ln le hn
  go_enter Tryz.func26, Tryz.ntmps26
  go_upto_region 1 with (refine wpList_boxR rfl 27 (.tmp 0) rfl #[.slice a n c, .slice a' n' c'] rfl ?_)
  refine wp_gen (fun W => Below w.heap.size w W ∧ Blk 27 W w.heap.size [.slice a n c, .slice a' n' c']) ⟨al1 _, Blk.new _ _ _⟩ ?_
  rintro W0 hW
  have M0 : Hid (Below w.heap.size w W0 ∧ Blk 27 W0 w.heap.size [.slice a n c, .slice a' n' c']) := hW
  clear hW
  go_wp2_with fail
  refine (HF.out _ M0.out.1).mono ?_
  rintro e' W1 ⟨r1, rfl, h1, hb⟩
  have M1 : Hid (Below w.heap.size w W1 ∧ Blk 27 W1 w.heap.size [.slice a n c, .slice a' n' c'] ∧ Sl .u32 W1 r1 (lim (bn Z))) := ⟨below_via M0.out.1 hb (Nat.le_refl _), below_blk hb M0.out.2.lt M0.out.2, h1⟩
  clear h1 hb M0
  have p0 : W1.cell? ⟨w.heap.size, 0, none⟩ = some (.slice a n c) := M1.out.2.1.cell 0
  go_wp2_with fail
  refine (HX.out _ r1 M1.out.1 M1.out.2.2).mono ?_
  rintro e' W2 ⟨r2, rfl, h1, hb⟩
  have M2 : Hid (Below w.heap.size w W2 ∧ Blk 27 W2 w.heap.size [.slice a n c, .slice a' n' c'] ∧ Sl .u32 W2 r2 (lim (bn Z ^ d % nn))) := ⟨below_via M1.out.1 hb (Nat.le_refl _), below_blk hb M1.out.2.1.lt M1.out.2.1, h1⟩
  clear h1 hb M1 p0
  have p0 : W2.cell? ⟨w.heap.size, 0, none⟩ = some (.slice a n c) := M2.out.2.1.cell 0
  have p1 : W2.cell? ⟨w.heap.size, 1, none⟩ = some (.slice a' n' c') := M2.out.2.1.cell 1
  go_wp2_with fail
  refine (HS.out _ M2.out.1).mono ?_
  rintro e' W3 ⟨rfl, hb⟩
  have M3 : Hid (Below w.heap.size w W3 ∧ Sl .u32 W3 r2 (lim (bn Z ^ d % nn))) := ⟨below_via M2.out.1 hb (Nat.le_refl _), below_sl hb M2.out.2.2⟩
  clear hb M2 p0 p1
  go_wp2_with fail
  refine (HB.out _ r2 M3.out.1 M3.out.2).mono ?_
  rintro e' W4 ⟨r4, rfl, g1, h1, hb⟩
  have M4 : Hid (Below w.heap.size w W4 ∧ Arr .u8 5 W4 r4 (sgS nn d sz Z) ∧ w.heap.size ≤ r4) := ⟨below_via M3.out.1 hb (Nat.le_refl _), h1, g1⟩
  clear h1 g1 hb M3
  go_wp2
  go_ret
  exact ⟨_, rfl, M4.out.2.2, M4.out.2.1, M4.out.1⟩
set_option maxHeartbeats 4000000 in
theorem Sign_new {w : World} (i : Nat) (hi : i < 3) {nn e d sz : Nat} (K : KeyG (kN i) (kE i) (kD i) nn e d sz) (alg : Int) (f : Option Addr) (k g : Nat) (X : List Int) (hX : Sl .u8 w (.slice f k g) X) (uX : U8s X) (lX : X.length = k) (hp : padE alg X sz = 0) :
    Calls Tryz.prog 10 #[.int .i64 (i : Nat), .int .i64 alg, .slice f k g] w fun e' w' => ∃ b, e' = .returned (.slice (some ⟨b, 0, none⟩) sz sz) ∧ w.heap.size ≤ b ∧ Arr .u8 5 w' b (sgS nn d sz (padV alg X sz)) ∧ Below w.heap.size w w' := by
  have s1 := K.s1
  have lens := K.len
  have HK : Hid (∀ W, Calls Tryz.prog 8 #[.int .i64 (i : Nat)] W fun e w' => KnAns i W e w') := fun W => Known_any i hi
  have HS : Hid (∀ (W : World) (a a' : Option Addr) (c c' : Nat), Sl .u32 W (.slice a (kN i).length c) (kN i) → Sl .u32 W (.slice a' (kE i).length c') (kE i) → Calls Tryz.prog 25 #[.agg #[.slice a (kN i).length c, .slice a' (kE i).length c']] W fun e w' => e = .returned (.int .i64 (sz : Nat)) ∧ Below W.heap.size W w') := fun W a a' c c' h1 h2 => (RSize_any a a' _ c _ c' (kN i) (kE i) h1 K.un rfl h2 K.ue rfl (by omega) (by omega) (bts_le K.un (by omega))).mono fun e w' h' => by rw [K.ksz] at h'; exact h'
  have HP : Hid (∀ W, Below w.heap.size w W → Calls Tryz.prog 24 #[.int .i64 alg, .slice f k g, .int .i64 (sz : Nat)] W fun e w' => ∃ v, e = .returned (.tuple #[v, .int .i64 (padE alg X sz)]) ∧ Sl .u8 w' v (padV alg X sz) ∧ Below W.heap.size W w') := fun W h => RPadC alg f k g X (below_sl h hX) uX lX sz
  have HW : Hid (∀ (W : World) (a a' : Option Addr) (c c' : Nat) vd vz, Below w.heap.size w W → Sl .u32 W (.slice a (kN i).length c) (kN i) → Sl .u32 W (.slice a' (kE i).length c') (kE i) → Sl .u32 W vd (kD i) → Sl .u8 W vz (padV alg X sz) → Calls Tryz.prog 26 #[.agg #[.slice a (kN i).length c, .slice a' (kE i).length c'], vd, vz] W fun e' w' => ∃ b, e' = .returned (.slice (some ⟨b, 0, none⟩) sz sz) ∧ w.heap.size ≤ b ∧ Arr .u8 5 w' b (sgS nn d sz (padV alg X sz)) ∧ Below W.heap.size W w') := fun W a a' c c' vd vz h0 h1 h2 h3 h4 => (power_new K a a' _ c _ c' h1 rfl h2 rfl vd h3 vz _ h4 (padV_u8 sz uX) (pad_is hp).2).mono fun e' w' ⟨b, h5, h6, h7, h8⟩ => ⟨b, h5, Nat.le_trans h0.size h6, h7, h8⟩
  clear hX uX lX s1 lens K
  obtain ⟨l1, h1⟩ : ∃ l, (kN i).length = l := ⟨_, rfl⟩
  obtain ⟨l2, h2⟩ : ∃ l, (kE i).length = l := ⟨_, rfl⟩
  obtain ⟨l3, h3⟩ : ∃ l, (kD i).length = l := ⟨_, rfl⟩
  unfold KnAns at HK
  rw [h1, h2] at HS HW
  rw [h1, h2, h3] at HK
  clear h1 h2 h3
  go_enter Tryz.func10, Tryz.ntmps10
  go_wp2_with fail
  refine (HK.out _).mono ?_
  rintro e' W1 ⟨a, c, a', c', b, m, rfl, q1, q2, q3, hb⟩
  have M1 : Hid (Sl .u32 W1 (.slice a l1 c) (kN i) ∧ Sl .u32 W1 (.slice a' l2 c') (kE i) ∧ Sl .u32 W1 (.slice b l3 m) (kD i) ∧ Below w.heap.size w W1) := ⟨q1, q2, q3, hb⟩
  clear q1 q2 q3 hb HK
  go_upto_region 2 with (fail)
  refine wp_gen (fun W => Below W1.heap.size W1 W ∧ Blk 27 W W1.heap.size [.slice a l1 c, .slice a' l2 c']) ⟨al1 _, Blk.new _ _ _⟩ ?_
  rintro W2 ⟨hb, hB⟩
  obtain ⟨fb, hf⟩ : ∃ x, W1.heap.size = x := ⟨_, rfl⟩
  have M2 : Hid ((Sl .u32 W2 (.slice a l1 c) (kN i) ∧ Sl .u32 W2 (.slice a' l2 c') (kE i) ∧ Sl .u32 W2 (.slice b l3 m) (kD i)) ∧ Below w.heap.size w W2 ∧ Blk 27 W2 fb [.slice a l1 c, .slice a' l2 c']) := ⟨⟨below_sl hb M1.out.1, below_sl hb M1.out.2.1, below_sl hb M1.out.2.2.1⟩, below_via M1.out.2.2.2 hb (Nat.le_refl _), hf ▸ hB⟩
  rw [hf]
  clear hb hB hf M1
  have p0 : W2.cell? ⟨fb, 0, none⟩ = some (.slice a l1 c) := M2.out.2.2.cell 0
  have p1 : W2.cell? ⟨fb, 1, none⟩ = some (.slice a' l2 c') := M2.out.2.2.cell 1
  go_wp2_with fail
  refine (HS.out _ _ _ _ _ M2.out.1.1 M2.out.1.2.1).mono ?_
  rintro e' W3 ⟨rfl, hb⟩
  have M3 : Hid ((Sl .u32 W3 (.slice a l1 c) (kN i) ∧ Sl .u32 W3 (.slice a' l2 c') (kE i) ∧ Sl .u32 W3 (.slice b l3 m) (kD i)) ∧ Below w.heap.size w W3 ∧ Blk 27 W3 fb [.slice a l1 c, .slice a' l2 c']) := ⟨⟨below_sl hb M2.out.1.1, below_sl hb M2.out.1.2.1, below_sl hb M2.out.1.2.2⟩, below_via M2.out.2.1 hb (Nat.le_refl _), below_blk hb M2.out.2.2.lt M2.out.2.2⟩
  clear hb M2 p0 p1
  go_wp2_with fail
  refine (HP.out _ M3.out.2.1).mono ?_
  rintro e' W4 ⟨v, rfl, hv, hb⟩
  have M4 : Hid ((Sl .u32 W4 (.slice a l1 c) (kN i) ∧ Sl .u32 W4 (.slice a' l2 c') (kE i) ∧ Sl .u32 W4 (.slice b l3 m) (kD i)) ∧ Below w.heap.size w W4 ∧ Blk 27 W4 fb [.slice a l1 c, .slice a' l2 c'] ∧ Sl .u8 W4 v (padV alg X sz)) := ⟨⟨below_sl hb M3.out.1.1, below_sl hb M3.out.1.2.1, below_sl hb M3.out.1.2.2⟩, below_via M3.out.2.1 hb (Nat.le_refl _), below_blk hb M3.out.2.2.lt M3.out.2.2, hv⟩
  clear hb M3 hv HP HS
  have HE : Hid (padE alg X sz = 0) := hp
  rw [hp]
  clear hp
  have p0 : W4.cell? ⟨fb, 0, none⟩ = some (.slice a l1 c) := M4.out.2.2.1.cell 0
  have p1 : W4.cell? ⟨fb, 1, none⟩ = some (.slice a' l2 c') := M4.out.2.2.1.cell 1
  go_wp2_with fail
  refine (HW.out _ _ _ _ _ _ _ M4.out.2.1 M4.out.1.1 M4.out.1.2.1 M4.out.1.2.2 M4.out.2.2.2).mono ?_
  rintro e' W5 ⟨rb, rfl, g1, h5, hb⟩
  have M5 : Hid (Arr .u8 5 W5 rb (sgS nn d sz (padV alg X sz)) ∧ Below w.heap.size w W5 ∧ w.heap.size ≤ rb) := ⟨h5, below_via M4.out.2.1 hb (Nat.le_refl _), g1⟩
  clear h5 g1 hb M4 p0 p1
  go_wp2
  go_ret
  exact ⟨_, rfl, M5.out.2.2, M5.out.1, M5.out.2.1⟩
theorem RsaTurned_l0 {w : World} (i : Int) (alg : Int) (a : Option Addr) (len cap : Nat) (t q : Int) (g0 : decide (8192 < (len : Int)) = true) (hT : Sh.Tabs w) :
    Calls Tryz.prog 4 #[.int .u8 i, .int .i64 alg, .slice a len cap, .int .u16 t, .int .u8 q] w fun e w' => e = .returned (.bool true) ∧ Below w.heap.size w w' := by
  have HL : Hid (∀ W, Below w.heap.size w W → Calls Tryz.prog 7 #[] W fun e w' => e = .returned (.bool true) ∧ Below W.heap.size W w') := fun W h => live8_any (hT.below h)
  go_enter Tryz.func4, Tryz.ntmps4
  go_wp2_with fail
  refine (HL.out _ (Below.refl _ _)).mono ?_
  rintro e w7 ⟨rfl, hb7⟩
  have H7 : Hid (Below w.heap.size w w7) := below_via (Below.refl _ _) hb7 (Nat.le_refl _)
  clear hb7
  go_wp2
  go_ret
  exact ⟨rfl, H7.out⟩
theorem RsaTurned_l2 {w : World} (i : Int) (alg : Int) (a : Option Addr) (len cap : Nat) (t q : Int) (g0 : decide (8192 < (len : Int)) = false) (h0 : Sh.siz alg = 0) (hT : Sh.Tabs w) :
    Calls Tryz.prog 4 #[.int .u8 i, .int .i64 alg, .slice a len cap, .int .u16 t, .int .u8 q] w fun e w' => e = .returned (.bool true) ∧ Below w.heap.size w w' := by
  have HL : Hid (∀ W, Below w.heap.size w W → Calls Tryz.prog 7 #[] W fun e w' => e = .returned (.bool true) ∧ Below W.heap.size W w') := fun W h => live8_any (hT.below h)
  have HZ : Hid (∀ W : World, Calls Tryz.prog 6 #[.int .i64 alg] W fun e w' => e = .returned (.int .i64 (Sh.siz alg : Nat)) ∧ W = w') := fun W => RSize8 alg
  rw [h0] at HZ
  go_enter Tryz.func4, Tryz.ntmps4
  go_wp2_with fail
  refine (HZ.out _).mono ?_
  rintro e w1 ⟨rfl, rfl⟩
  go_wp2_with fail
  refine (HL.out _ (Below.refl _ _)).mono ?_
  rintro e w7 ⟨rfl, hb7⟩
  have H7 : Hid (Below w.heap.size w w7) := below_via (Below.refl _ _) hb7 (Nat.le_refl _)
  clear hb7
  go_wp2
  go_ret
  exact ⟨rfl, H7.out⟩
theorem xor_ne (y : Int) (h0 : 0 ≤ y) (h1 : y < 256) (k : Nat) (hk : k < 8) : 0 ≤ bits .xor .u8 y (2 ^ k % 256) ∧ bits .xor .u8 y (2 ^ k % 256) < 256 ∧ bits .xor .u8 y (2 ^ k % 256) ≠ y := by
  obtain ⟨n, rfl⟩ : ∃ n : Nat, y = n := ⟨y.toNat, by omega⟩
  have h : ∀ n : Fin 256, ∀ k : Fin 8, 0 ≤ bits .xor .u8 (n.val : Int) (2 ^ k.val % 256) ∧ bits .xor .u8 (n.val : Int) (2 ^ k.val % 256) < 256 ∧ bits .xor .u8 (n.val : Int) (2 ^ k.val % 256) ≠ (n.val : Int) := by decide +kernel
  exact h ⟨n, by omega⟩ ⟨k, hk⟩
set_option maxHeartbeats 8000000 in
theorem RsaTurned_main {w : World} (i : Int) (alg : Int) (a : Option Addr) (len cap : Nat) (t q : Int) (i0 : 0 ≤ i) (i1 : i < 256) (t0 : 0 ≤ t) (t1 : t < 65536) (q0 : 0 ≤ q) (q1 : q < 256) (g0 : decide (8192 < (len : Int)) = false) (h0 : 0 < Sh.siz alg) (hT : Sh.Tabs w) (X : List Int) (hX : Sl .u8 w (.slice a len cap) X) (uX : U8s X) (lX : X.length = len) (hle : len ≤ 8192) (j : Nat) (hj : j < 3) (hij : i % 3 = (j : Int)) (k : Nat) (hk : k < 8) (hqk : q % 8 = (k : Int)) :
    Calls Tryz.prog 4 #[.int .u8 i, .int .i64 alg, .slice a len cap, .int .u16 t, .int .u8 q] w fun e w' => e = .returned (.bool true) ∧ Below w.heap.size w w' := by
  have HL : Hid (∀ W, Below w.heap.size w W → Calls Tryz.prog 7 #[] W fun e w' => e = .returned (.bool true) ∧ Below W.heap.size W w') := fun W h => live8_any (hT.below h)
  have HZ : Hid (∀ W : World, Calls Tryz.prog 6 #[.int .i64 alg] W fun e w' => e = .returned (.int .i64 (Sh.siz alg : Nat)) ∧ W = w') := fun W => RSize8 alg
  obtain ⟨nn, ex, dd, sz, K⟩ := keyG j hj
  have s1 := K.s1
  have lens := K.len
  have hA : Sh.Alg alg := (siz_pos (alg := alg)).1 h0
  have HK : Hid (∀ W, Calls Tryz.prog 8 #[.int .i64 (j : Nat)] W fun e w' => KnAns j W e w') := fun W => Known_any j hj
  have HD : Hid (∀ (W : World) (f : Option Addr) (k g : Nat) (Z : List Int), Sl .u8 W (.slice f k g) Z → U8s Z → Z.length ≤ 8192 → Calls Tryz.prog 9 #[.int .i64 alg, .slice f k g] W fun e w' => ∃ a c, e = .returned (.slice a (Sh.siz alg) c) ∧ Sl .u8 w' (.slice a (Sh.siz alg) c) (Sh.dig alg Z) ∧ Below W.heap.size W w') := fun W f k g Z h1 h2 h3 => (Sh.Digest_ok alg hA W _ Z h1 h2 (by omega)).mono fun e w' ⟨r, h4, h5, h6⟩ => by
    obtain ⟨a, c, hr, _⟩ := h5.len
    rw [Sh.dig_len] at hr
    subst hr
    exact ⟨a, c, h4, h5, h6⟩
  have dU : ∀ Z, U8s (Sh.dig alg Z) := fun Z x hx => by unfold Sh.dig at hx; exact Sh.out_u8 _ _ x hx
  have dI : ∀ Z, isD alg (Sh.dig alg Z).length = true := fun Z => by unfold isD; rw [Sh.dig_len]; simp [h0]
  have HV : Hid (∀ (W : World) (ka ea : Option Addr) (kc ec : Nat) (f : Option Addr) (g : Nat) (b : Option Addr) (m d : Nat) (Z sg : List Int), Sl .u32 W (.slice ka (kN j).length kc) (kN j) → Sl .u32 W (.slice ea (kE j).length ec) (kE j) → Sl .u8 W (.slice f (Sh.siz alg) g) Z → U8s Z → Z.length = Sh.siz alg → Sl .u8 W (.slice b m d) sg → U8s sg → sg.length = m → Calls Tryz.prog 12 #[.agg #[.slice ka (kN j).length kc, .slice ea (kE j).length ec], .int .i64 alg, .slice f (Sh.siz alg) g, .slice b m d] W fun e w' => e = .returned (.int .i64 (verS alg Z (kN j) (kE j) sg)) ∧ Below W.heap.size W w') := fun W ka ea kc ec f g b m d Z sg h1 h2 h3 h4 h5 h6 h7 h8 => Verify_any ka ea _ kc _ ec (kN j) (kE j) h1 K.un rfl h2 K.ue rfl (by omega) (by omega) b m d sg h6 h7 h8 alg f _ g Z h3 h4 h5
  have HS : Hid (∀ (W : World) (f : Option Addr) (g : Nat), padE alg (Sh.dig alg X) sz ≠ 0 → Sl .u8 W (.slice f (Sh.siz alg) g) (Sh.dig alg X) → Calls Tryz.prog 10 #[.int .i64 (j : Nat), .int .i64 alg, .slice f (Sh.siz alg) g] W fun e' w' => ∃ a c, e' = .returned (.slice a 0 c) ∧ Below W.heap.size W w') := fun W f g h0 h1 => (Sign_any j hj K alg f _ g _ h1 (dU X) (Sh.dig_len ..)).mono fun e' w' ⟨a, n, c, h2, h3, h4⟩ => by
    have es : sigS nn dd sz alg (Sh.dig alg X) = [] := if_neg h0
    rw [es] at h3
    obtain ⟨_, _, h5, _⟩ := h3.len
    simp only [Value.slice.injEq, List.length_nil] at h5
    rw [h5.2.1] at h2
    exact ⟨a, c, h2, h4⟩
  have HS1 : Hid (padE alg (Sh.dig alg X) sz = 0 → ∀ (W : World) (f : Option Addr) (g : Nat), Sl .u8 W (.slice f (Sh.siz alg) g) (Sh.dig alg X) → Calls Tryz.prog 10 #[.int .i64 (j : Nat), .int .i64 alg, .slice f (Sh.siz alg) g] W fun e' w' => ∃ b, e' = .returned (.slice (some ⟨b, 0, none⟩) sz sz) ∧ W.heap.size ≤ b ∧ Arr .u8 5 w' b (sgS nn dd sz (padV alg (Sh.dig alg X) sz)) ∧ Below W.heap.size W w') := fun h0 W f g h1 => Sign_new j hj K alg f _ g _ h1 (dU X) (Sh.dig_len ..) h0
  have HDX : Hid (∀ W, Below w.heap.size w W → Calls Tryz.prog 9 #[.int .i64 alg, .slice a len cap] W fun e w' => ∃ a c, e = .returned (.slice a (Sh.siz alg) c) ∧ Sl .u8 w' (.slice a (Sh.siz alg) c) (Sh.dig alg X) ∧ Below W.heap.size W w') := fun W h => HD.out W _ _ _ X (below_sl h hX) uX (by omega)
  have HP : Hid (padE alg (Sh.dig alg X) sz = 0 → ∀ sg : List Int, U8s sg → sg.length = sz → sg ≠ sgS nn dd sz (padV alg (Sh.dig alg X) sz) → verS alg (Sh.dig alg X) (kN j) (kE j) sg = 112) := fun hp sg h1 h2 h3 => ver_other K (dI X) hp h1 h2 h3
  have HQ : Hid (U8s (Sh.dig alg X) ∧ (Sh.dig alg X).length = Sh.siz alg ∧ 2 ≤ sz ∧ sz ≤ 128) := ⟨dU X, Sh.dig_len .., s1.1, s1.2⟩
  have hz : ((Sh.siz alg : Int) == 0) = false := by simp; omega
  have hz2 : (Sh.siz alg == 0) = false := by simp; omega
  have hz3 : decide (Sh.siz alg = 0) = false := by simp; omega
  obtain ⟨l1, e1⟩ : ∃ l, (kN j).length = l := ⟨_, rfl⟩
  obtain ⟨l2, e2⟩ : ∃ l, (kE j).length = l := ⟨_, rfl⟩
  obtain ⟨l3, e3⟩ : ∃ l, (kD j).length = l := ⟨_, rfl⟩
  unfold KnAns at HK
  rw [e1, e2, e3] at HK
  rw [e1, e2] at HV
  clear HD hX uX lX hle K s1 lens hA dU dI e1 e2 e3 hT
  generalize Sh.siz alg = sl at *
  generalize Sh.dig alg X = DX at *
  go_enter Tryz.func4, Tryz.ntmps4
  go_wp2_with fail
  refine (HZ.out _).mono ?_
  rintro e w1 ⟨rfl, rfl⟩
  go_wp2_with fail
  refine (HK.out _).mono ?_
  rintro e W1 ⟨ka, kc, ea, ec, da, dc, rfl, q1, q2, q3, hb⟩
  have M1 : Hid (Sl .u32 W1 (.slice ka l1 kc) (kN j) ∧ Sl .u32 W1 (.slice ea l2 ec) (kE j) ∧ Below w.heap.size w W1) := ⟨q1, q2, hb⟩
  clear q1 q2 q3 hb HK
  go_upto_region 4 with (fail)
  refine wp_gen (fun W => Below W1.heap.size W1 W ∧ Blk 27 W W1.heap.size [.slice ka l1 kc, .slice ea l2 ec]) ⟨al1 _, Blk.new _ _ _⟩ ?_
  rintro W2 ⟨hb, hB⟩
  obtain ⟨fb, hf⟩ : ∃ x, W1.heap.size = x := ⟨_, rfl⟩
  have M2 : Hid (Sl .u32 W2 (.slice ka l1 kc) (kN j) ∧ Sl .u32 W2 (.slice ea l2 ec) (kE j) ∧ Below w.heap.size w W2 ∧ Blk 27 W2 fb [.slice ka l1 kc, .slice ea l2 ec]) := ⟨below_sl hb M1.out.1, below_sl hb M1.out.2.1, below_via M1.out.2.2 hb (Nat.le_refl _), hf ▸ hB⟩
  rw [hf]
  clear hb hB hf M1
  go_wp2_with fail
  refine (HDX.out _ M2.out.2.2.1).mono ?_
  rintro e W3 ⟨xa, xc, rfl, hx, hb⟩
  have M3 : Hid (Sl .u32 W3 (.slice ka l1 kc) (kN j) ∧ Sl .u32 W3 (.slice ea l2 ec) (kE j) ∧ Below w.heap.size w W3 ∧ Blk 27 W3 fb [.slice ka l1 kc, .slice ea l2 ec] ∧ Sl .u8 W3 (.slice xa sl xc) DX) := ⟨below_sl hb M2.out.1, below_sl hb M2.out.2.1, below_via M2.out.2.2.1 hb (Nat.le_refl _), below_blk hb M2.out.2.2.2.lt M2.out.2.2.2, hx⟩
  clear hb hx M2
  by_cases hp : padE alg DX sz = 0
  · go_wp2_with fail
    refine (HS1.out hp _ _ _ M3.out.2.2.2.2).mono ?_
    rintro e W5 ⟨gb, rfl, hge, hA5, hb⟩
    obtain ⟨sg, hsg⟩ : ∃ s, sgS nn dd sz (padV alg DX sz) = s := ⟨_, rfl⟩
    have hu : U8s sg := hsg ▸ beb_u8 _ _
    have hl : sg.length = sz := hsg ▸ sgS_len ..
    rw [hsg] at hA5
    obtain ⟨p, hpp⟩ : ∃ p : Nat, t % (sz : Int) = p := ⟨(t % (sz : Int)).toNat, by have := HQ.out.2.2.1; have := Int.emod_nonneg t (show (sz : Int) ≠ 0 by omega); omega⟩
    have hps : p < sz := by have := HQ.out.2.2.1; have := Int.emod_lt_of_pos t (show (0 : Int) < sz by omega); omega
    obtain ⟨y, hy⟩ : ∃ y, sg.getD p 0 = y := ⟨_, rfl⟩
    have hyu : 0 ≤ y ∧ y < 256 := by
      rw [← hy, List.getD_eq_getElem?_getD, List.getElem?_eq_getElem (by omega), Option.getD_some]
      exact hu _ (List.getElem_mem _)
    have hx := xor_ne y hyu.1 hyu.2 k hk
    have hc := hA5.cell p (by omega)
    rw [hy] at hc
    have hfz := hA5.frozen p
    have n0 : ((sz : Int) == 0) = false := by have := HQ.out.2.2.1; simp; omega
    have n1 : (sz == 0) = false := by have := HQ.out.2.2.1; simp; omega
    have n2 : decide (sz = 0) = false := by have := HQ.out.2.2.1; simp; omega
    have n3 : sz ≠ 0 := by have := HQ.out.2.2.1; omega
    have n4 : (sz : Int) ≠ 0 := by omega
    have HA : Hid (Arr .u8 5 W5 gb sg ∧ W3.heap.size ≤ gb ∧ Below W3.heap.size W3 W5) := ⟨hA5, hge, hb⟩
    clear hA5 hge hb
    go_upto_region 9 with (fail)
    obtain ⟨x, hxx⟩ : ∃ x, bits .xor .u8 y (2 ^ k % 256) = x := ⟨_, rfl⟩
    rw [hxx] at hx
    refine wp_gen (fun W => Below W3.heap.size W3 W ∧ Arr .u8 5 W gb (sg.set p x)) ⟨HA.out.2.2.setCell HA.out.2.1 _, by rw [← hxx]; exact HA.out.1.set _ _⟩ ?_
    rintro W6 ⟨hb, hA6⟩
    have hu6 : U8s (sg.set p x) := fun z hz => by
      rcases List.mem_or_eq_of_mem_set hz with h | h
      · exact hu z h
      · rw [h]; exact ⟨hx.1, by omega⟩
    have hl6 : (sg.set p x).length = sz := by rw [List.length_set]; exact hl
    have hne : sg.set p x ≠ sg := fun h => by
      have h2 : (sg.set p x).getD p 0 = x := by rw [List.getD_eq_getElem?_getD, List.getElem?_set_self (by omega)]; rfl
      rw [h, hy] at h2
      exact hx.2.2 h2.symm
    have hv := HP.out hp _ hu6 hl6 (hsg.symm ▸ hne)
    have hs6 : Sl .u8 W6 (.slice (some ⟨gb, 0, none⟩) sz sz) (sg.set p x) := by have := hA6.sl8; rw [hl6] at this; exact this
    have M6 : Hid (Sl .u32 W6 (.slice ka l1 kc) (kN j) ∧ Sl .u32 W6 (.slice ea l2 ec) (kE j) ∧ Below w.heap.size w W6 ∧ Blk 27 W6 fb [.slice ka l1 kc, .slice ea l2 ec] ∧ Sl .u8 W6 (.slice xa sl xc) DX) := ⟨below_sl hb M3.out.1, below_sl hb M3.out.2.1, below_via M3.out.2.2.1 hb (Nat.le_refl _), below_blk hb M3.out.2.2.2.1.lt M3.out.2.2.2.1, below_sl hb M3.out.2.2.2.2⟩
    have HV1 : Hid (Calls Tryz.prog 12 #[.agg #[.slice ka l1 kc, .slice ea l2 ec], .int .i64 alg, .slice xa sl xc, .slice (some ⟨gb, 0, none⟩) sz sz] W6 fun e w' => e = .returned (.int .i64 112) ∧ Below W6.heap.size W6 w') := (HV.out W6 ka ea kc ec xa xc (some ⟨gb, 0, none⟩) sz sz DX _ M6.out.1 M6.out.2.1 M6.out.2.2.2.2 HQ.out.1 HQ.out.2.1 hs6 hu6 hl6).mono fun e w' h' => by rw [hv] at h'; exact h'
    clear hu hl hsg hpp hps hy hyu hx hc hfz n0 n1 n2 n3 n4 HA hxx hb hA6 hu6 hl6 hne hv hs6 HP HV HS HS1 M3
    have p0 : W6.cell? ⟨fb, 0, none⟩ = some (.slice ka l1 kc) := M6.out.2.2.2.1.cell 0
    have p1 : W6.cell? ⟨fb, 1, none⟩ = some (.slice ea l2 ec) := M6.out.2.2.2.1.cell 1
    go_wp2_with fail
    refine HV1.out.mono ?_
    rintro e W7 ⟨rfl, hb7⟩
    have H8 : Hid (Below w.heap.size w W7) := below_via M6.out.2.2.1 hb7 (Nat.le_refl _)
    clear hb7 p0 p1
    go_wp2_with (go_at_call 11; refine (num8_any _ _).mono ?_; rintro e w6 ⟨rfl, rfl⟩)
    refine (HL.out _ H8.out).mono ?_
    rintro e w7 ⟨rfl, hb7⟩
    have H7 : Hid (Below w.heap.size w w7) := below_via H8.out hb7 (Nat.le_refl _)
    clear hb7
    go_wp2
    go_ret
    exact ⟨rfl, H7.out⟩
  · go_wp2_with fail
    refine (HS.out _ _ _ hp M3.out.2.2.2.2).mono ?_
    rintro e W5 ⟨ga, gc, rfl, hb⟩
    have H5 : Hid (Below w.heap.size w W5) := below_via M3.out.2.2.1 hb (Nat.le_refl _)
    clear hb M3
    go_wp2_with fail
    refine (HL.out _ H5.out).mono ?_
    rintro e w7 ⟨rfl, hb7⟩
    have H7 : Hid (Below w.heap.size w w7) := below_via H5.out hb7 (Nat.le_refl _)
    clear hb7
    go_wp2
    go_ret
    exact ⟨rfl, H7.out⟩
theorem RsaTurned_any {w : World} (i : Int) (alg : Int) (a : Option Addr) (len cap : Nat) (t q : Int) (i0 : 0 ≤ i) (i1 : i < 256) (t0 : 0 ≤ t) (t1 : t < 65536) (q0 : 0 ≤ q) (q1 : q < 256) (hT : Sh.Tabs w) (X : List Int) (hX : Sl .u8 w (.slice a len cap) X) (uX : U8s X) (lX : X.length = len) :
    Calls Tryz.prog 4 #[.int .u8 i, .int .i64 alg, .slice a len cap, .int .u16 t, .int .u8 q] w fun e w' => e = .returned (.bool true) ∧ Below w.heap.size w w' := by
  by_cases h0 : len ≤ 8192
  · have g0 : decide ((8192 : Int) < (len : Int)) = false := by simp; omega
    by_cases h2 : 0 < Sh.siz alg
    · exact RsaTurned_main i alg a len cap t q i0 i1 t0 t1 q0 q1 g0 h2 hT X hX uX lX h0 (i % 3).toNat (by omega) (by omega) (q % 8).toNat (by omega) (by omega)
    · exact RsaTurned_l2 i alg a len cap t q g0 (by omega) hT
  · exact RsaTurned_l0 i alg a len cap t q (by simp; omega) hT
end Go.Proofs.YtmfdhfdcokkclaaGreatDoor
