/-
  Ecdsa: Number, and the reference's Key, Number.
-/
import Derived.OpenShut
import Derived.Test.YtedoghjefdkmaaaGreatK31
namespace Go.Proofs.YtedoghjefdkmaaaGreat
open Go.RowKit
def numS (c : Int) (S : List Int) : List Int := (fromS (S.take (crvN (·.sz) (crv c)))).1
theorem sl_take {k : IntKind} {w : World} {a : Option Addr} {n c : Nat} {S : List Int} (h : Sl k w (.slice a n c) S) (m : Nat) (hm : m ≤ n) : Sl k w (.slice a m c) (S.take m) := by
  obtain ⟨a', c', hv, hc, hx⟩ := h
  simp only [Value.slice.injEq] at hv
  obtain ⟨rfl, rfl, rfl⟩ := hv
  refine ⟨a, c, by rw [List.length_take, Nat.min_eq_left hm], by rw [List.length_take]; omega, ?_⟩
  rcases hx with hx | ⟨b, off, rfl, hb, hr⟩
  · exact .inl (by rw [hx]; simp)
  · refine .inr ⟨b, off, rfl, hb, fun i hi => ?_⟩
    rw [List.length_take] at hi
    rw [hr i (by omega), List.getD_eq_getElem?_getD, List.getD_eq_getElem?_getD, List.getElem?_take, if_pos (by omega)]
set_option maxRecDepth 20000 in
set_option maxHeartbeats 2000000 in
theorem Number_any {w : World} (c : Int) (a : Option Addr) (n cp : Nat) (S : List Int) (hS : Sl .u8 w (.slice a n cp) S) (uS : U8s S) :
    Calls Tryz.prog 12 #[.int .i64 c, .slice a n cp] w fun e w' => ∃ r, e = .returned r ∧ Sl .u32 w' r (numS c S) ∧ Below w.heap.size w w' := by
  obtain ⟨a', cp', hv, hc, _⟩ := id hS
  simp only [Value.slice.injEq] at hv
  obtain ⟨rfl, hn, rfl⟩ := hv
  obtain ⟨sz, hsz⟩ : ∃ sz, crvN (·.sz) (crv c) = sz := ⟨_, rfl⟩
  have hU : U8s (S.take sz) := fun z hz => uS z (List.mem_of_mem_take hz)
  have HZ : Hid (∀ W : World, Calls Tryz.prog 31 #[.int .i64 c] W fun e w' => e = .returned (.int .i64 (sz : Nat)) ∧ Below W.heap.size W w') := fun W => by rw [← hsz]; exact Size_any c
  have HN : Hid (numS c S = (fromS (S.take sz)).1) := by show numS c S = _; unfold numS; rw [hsz]
  by_cases hs : n ≤ sz
  · have HS : Hid (∀ W, Below w.heap.size w W → Sl .u8 W (.slice a n cp) (S.take sz) ∧ U8s (S.take sz)) := fun W h => ⟨by rw [List.take_of_length_le (by omega)]; exact below_sl h hS, hU⟩
    have hle : (n : Int) ≤ (sz : Int) := by omega
    have hkc : (n : Int) ≤ (cp : Int) := by omega
    clear hS uS hc hn hsz hs hU
    go_enter Tryz.func12, Tryz.ntmps12
    go_wp2_with fail
    refine (HZ.out _).mono ?_
    rintro e w1 ⟨rfl, hb1⟩
    have H1 : Hid (Below w.heap.size w w1) := hb1
    clear hb1
    go_wp2_with fail
    refine (FromBytes_any (S.take sz) (.slice a n cp) w1 (HS.out _ H1.out).1 (HS.out _ H1.out).2).mono ?_
    rintro e w2 ⟨⟨r, rfl, hr⟩, hb2⟩
    have H2 : Hid (Sl .u32 w2 r (fromS (S.take sz)).1 ∧ Below w.heap.size w w2) := ⟨hr.sl, below_via H1.out hb2 (Nat.le_refl _)⟩
    clear hr hb2
    go_wp2
    go_ret
    exact ⟨_, rfl, by rw [HN.out]; exact H2.out.1, H2.out.2⟩
  · have HS : Hid (∀ W, Below w.heap.size w W → Sl .u8 W (.slice a sz cp) (S.take sz) ∧ U8s (S.take sz)) := fun W h => ⟨sl_take (below_sl h hS) sz (by omega), hU⟩
    have hle : ¬ (n : Int) ≤ (sz : Int) := by omega
    have hle2 : (sz : Int) ≤ (n : Int) := by omega
    have hkc : (sz : Int) ≤ (cp : Int) := by omega
    clear hS uS hc hn hsz hs hU
    go_enter Tryz.func12, Tryz.ntmps12
    go_wp2_with fail
    refine (HZ.out _).mono ?_
    rintro e w1 ⟨rfl, hb1⟩
    have H1 : Hid (Below w.heap.size w w1) := hb1
    clear hb1
    go_wp2_with fail
    refine (FromBytes_any (S.take sz) (.slice a sz cp) w1 (HS.out _ H1.out).1 (HS.out _ H1.out).2).mono ?_
    rintro e w2 ⟨⟨r, rfl, hr⟩, hb2⟩
    have H2 : Hid (Sl .u32 w2 r (fromS (S.take sz)).1 ∧ Below w.heap.size w w2) := ⟨hr.sl, below_via H1.out hb2 (Nat.le_refl _)⟩
    clear hr hb2
    go_wp2
    go_ret
    exact ⟨_, rfl, by rw [HN.out]; exact H2.out.1, H2.out.2⟩
set_option maxRecDepth 20000 in
set_option maxHeartbeats 2000000 in
theorem RNumber_any {w : World} (c : Int) (a : Option Addr) (n cp : Nat) (S : List Int) (hS : Sl .u8 w (.slice a n cp) S) (uS : U8s S) :
    Calls Tryz.prog 13 #[.int .i64 c, .slice a n cp] w fun e w' => ∃ r, e = .returned r ∧ Sl .u32 w' r (numS c S) ∧ Below w.heap.size w w' := by
  obtain ⟨a', cp', hv, hc, _⟩ := id hS
  simp only [Value.slice.injEq] at hv
  obtain ⟨rfl, hn, rfl⟩ := hv
  obtain ⟨sz, hsz⟩ : ∃ sz, crvN (·.sz) (crv c) = sz := ⟨_, rfl⟩
  have hU : U8s (S.take sz) := fun z hz => uS z (List.mem_of_mem_take hz)
  have HZ : Hid (∀ W : World, Calls Tryz.prog 24 #[.int .i64 c] W fun e w' => e = .returned (.int .i64 (sz : Nat)) ∧ Below W.heap.size W w') := fun W => by rw [← hsz]; exact RSize_any c
  have HN : Hid (numS c S = (fromS (S.take sz)).1) := by show numS c S = _; unfold numS; rw [hsz]
  by_cases hs : n ≤ sz
  · have HS : Hid (∀ W, Below w.heap.size w W → Sl .u8 W (.slice a n cp) (S.take sz) ∧ U8s (S.take sz)) := fun W h => ⟨by rw [List.take_of_length_le (by omega)]; exact below_sl h hS, hU⟩
    have hle : ¬ sz < n := by omega
    clear hS uS hc hn hsz hs hU
    go_enter Tryz.func13, Tryz.ntmps13
    go_wp2_with fail
    refine (HZ.out _).mono ?_
    rintro e w1 ⟨rfl, hb1⟩
    have H1 : Hid (Below w.heap.size w w1) := hb1
    clear hb1
    go_wp2_with fail
    refine (RFromBytes_any (S.take sz) (.slice a n cp) w1 (HS.out _ H1.out).1 (HS.out _ H1.out).2).mono ?_
    rintro e w2 ⟨⟨r, rfl, hr⟩, hb2⟩
    have H2 : Hid (Sl .u32 w2 r (fromS (S.take sz)).1 ∧ Below w.heap.size w w2) := ⟨hr, below_via H1.out hb2 (Nat.le_refl _)⟩
    clear hr hb2
    go_wp2
    go_ret
    exact ⟨_, rfl, by rw [HN.out]; exact H2.out.1, H2.out.2⟩
  · have HS : Hid (∀ W, Below w.heap.size w W → Sl .u8 W (.slice a sz cp) (S.take sz) ∧ U8s (S.take sz)) := fun W h => ⟨sl_take (below_sl h hS) sz (by omega), hU⟩
    have hle : sz < n := by omega
    have hkc : (sz : Int) ≤ (cp : Int) := by omega
    clear hS uS hc hn hsz hs hU
    go_enter Tryz.func13, Tryz.ntmps13
    go_wp2_with fail
    refine (HZ.out _).mono ?_
    rintro e w1 ⟨rfl, hb1⟩
    have H1 : Hid (Below w.heap.size w w1) := hb1
    clear hb1
    go_wp2_with fail
    refine (HZ.out _).mono ?_
    rintro e w1b ⟨rfl, hb1⟩
    have H1b : Hid (Below w.heap.size w w1b) := below_via H1.out hb1 (Nat.le_refl _)
    clear hb1
    go_wp2_with fail
    refine (RFromBytes_any (S.take sz) (.slice a sz cp) w1b (HS.out _ H1b.out).1 (HS.out _ H1b.out).2).mono ?_
    rintro e w2 ⟨⟨r, rfl, hr⟩, hb2⟩
    have H2 : Hid (Sl .u32 w2 r (fromS (S.take sz)).1 ∧ Below w.heap.size w w2) := ⟨hr, below_via H1b.out hb2 (Nat.le_refl _)⟩
    clear hr hb2
    go_wp2
    go_ret
    exact ⟨_, rfl, by rw [HN.out]; exact H2.out.1, H2.out.2⟩
theorem far_bits {X Y : List Int} (uX : U32s X) (uY : U32s Y) : farB X Y = (((bitLen (val X).toNat : Int) == 0) && ((bitLen (val Y).toNat : Int) == 0)) := by
  unfold farB
  have h1 := bits0 uX
  have h2 := bits0 uY
  by_cases a : val X = 0 <;> by_cases b : val Y = 0
  · have e1 := h1.2 a; have e2 := h2.2 b; rw [e1, e2]; simp [a, b]
  · simp [a, b]; intro _; exact fun h => b (h2.1 (by omega))
  · simp [a, b]; intro h; exact absurd (h1.1 (by omega)) a
  · simp [a, b]; intro h; exact absurd (h1.1 (by omega)) a
set_option maxRecDepth 20000 in
set_option maxHeartbeats 2000000 in
theorem RKey_any {w : World} (c : Int) (a1 : Option Addr) (n1 c1 : Nat) (a2 : Option Addr) (n2 c2 : Nat) (X Y : List Int) (hX : Sl .u32 w (.slice a1 n1 c1) X) (hY : Sl .u32 w (.slice a2 n2 c2) Y) (uX : U32s X) (uY : U32s Y) (lX : X.length ≤ 1000000) (lY : Y.length ≤ 1000000) :
    Calls Tryz.prog 10 #[.int .i64 c, .agg #[.slice a1 n1 c1, .slice a2 n2 c2]] w fun e w' => e = .returned (.int .i64 (keyS c X Y)) ∧ Below w.heap.size w w' := by
  have HO : Hid (∀ W, Below w.heap.size w W → Calls Tryz.prog 28 #[.int .i64 c, .agg #[.slice a1 n1 c1, .slice a2 n2 c2]] W fun e w' => e = .returned (.bool (onC c X Y)) ∧ Below W.heap.size W w') := fun W h => ROn_any c _ _ _ _ _ _ X Y (below_sl h hX) (below_sl h hY) uX uY lX lY
  have HBx : Hid (∀ W, Below w.heap.size w W → Calls Tryz.prog 29 #[.slice a1 n1 c1] W fun e w' => e = .returned (.int .i64 (bitLen (val X).toNat)) ∧ Below W.heap.size W w') := fun W h => Nt.RBits_any _ X (below_sl h hX) uX (by omega) (val X) rfl
  have HBy : Hid (∀ W, Below w.heap.size w W → Calls Tryz.prog 29 #[.slice a2 n2 c2] W fun e w' => e = .returned (.int .i64 (bitLen (val Y).toNat)) ∧ Below W.heap.size W w') := fun W h => Nt.RBits_any _ Y (below_sl h hY) uY (by omega) (val Y) rfl
  have HS : Hid (∀ W : World, Calls Tryz.prog 24 #[.int .i64 c] W fun e w' => e = .returned (.int .i64 (crvN (·.sz) (crv c) : Nat)) ∧ Below W.heap.size W w') := fun W => RSize_any c
  have HF := far_bits uX uY
  have HK : Hid (keyS c X Y = if crvN (·.sz) (crv c) = 0 then 1 else if (onC c X Y && !farB X Y) = true then 0 else 80) := rfl
  obtain ⟨sz, hsz⟩ : ∃ sz, crvN (·.sz) (crv c) = sz := ⟨_, rfl⟩
  obtain ⟨K, hK⟩ : ∃ K, keyS c X Y = K := ⟨_, rfl⟩
  obtain ⟨bo, hbo⟩ : ∃ b, onC c X Y = b := ⟨_, rfl⟩
  obtain ⟨x, hx⟩ : ∃ x, bitLen (val X).toNat = x := ⟨_, rfl⟩
  obtain ⟨y, hy⟩ : ∃ y, bitLen (val Y).toNat = y := ⟨_, rfl⟩
  rw [hx, hy] at HF
  rw [hx] at HBx
  rw [hy] at HBy
  rw [hsz] at HS
  rw [hsz, hK, hbo, HF] at HK
  rw [hbo] at HO
  rw [hK]
  clear hX hY uX uY lX lY hsz hK hbo HF hx hy
  by_cases hz : sz = 0
  · subst hz
    obtain rfl : K = 1 := HK.out
    go_enter Tryz.func10, Tryz.ntmps10
    go_wp2_with fail
    refine (HS.out _).mono ?_
    rintro e w1 ⟨rfl, hb1⟩
    have H1 : Hid (Below w.heap.size w w1) := below_via (al1 _) hb1 (Nat.le_refl _)
    clear hb1
    go_wp2
    go_ret
    exact ⟨rfl, H1.out⟩
  · replace HK : Hid (K = if (bo && !(((x : Int) == 0) && ((y : Int) == 0))) = true then 0 else 80) := HK.out.trans (if_neg hz)
    have hz1 : ((sz : Int) == 0) = false := by simp; exact hz
    go_enter Tryz.func10, Tryz.ntmps10
    go_wp2_with fail
    refine (HS.out _).mono ?_
    rintro e w1 ⟨rfl, hb1⟩
    have H1 : Hid (Below w.heap.size w w1 ∧ Blk 24 w1 w.heap.size [.slice a1 n1 c1, .slice a2 n2 c2]) := ⟨below_via (al1 _) hb1 (Nat.le_refl _), below_blk hb1 (by simp) (Blk.new _ w _)⟩
    have q0 : w1.cell? ⟨w.heap.size, 0, none⟩ = some (.slice a1 n1 c1) := H1.out.2.cell 0
    have q1 : w1.cell? ⟨w.heap.size, 1, none⟩ = some (.slice a2 n2 c2) := H1.out.2.cell 1
    clear hb1
    go_wp2_with fail
    refine (HO.out _ H1.out.1).mono ?_
    rintro e w3 ⟨rfl, hb3⟩
    have H3 : Hid (Below w.heap.size w w3 ∧ Blk 24 w3 w.heap.size [.slice a1 n1 c1, .slice a2 n2 c2]) := ⟨below_via H1.out.1 hb3 (Nat.le_refl _), below_blk hb3 H1.out.2.lt H1.out.2⟩
    have g0 : w3.cell? ⟨w.heap.size, 0, none⟩ = some (.slice a1 n1 c1) := H3.out.2.cell 0
    clear hb3 q0 q1
    cases bo with
    | false =>
      obtain rfl : K = 80 := HK.out
      go_wp2
      go_ret
      exact ⟨rfl, H3.out.1⟩
    | true =>
      go_wp2_with fail
      refine (HBx.out _ H3.out.1).mono ?_
      rintro e w4 ⟨rfl, hb4⟩
      have H4 : Hid (Below w.heap.size w w4) := below_via H3.out.1 hb4 (Nat.le_refl _)
      have g1 : w4.cell? ⟨w.heap.size, 1, none⟩ = some (.slice a2 n2 c2) := (below_blk hb4 H3.out.2.lt H3.out.2).cell 1
      clear hb4 g0
      cases hx : (x : Int) == 0 with
      | false =>
        obtain rfl : K = 0 := by rw [HK.out, hx]; rfl
        go_wp2
        go_ret
        exact ⟨rfl, H4.out⟩
      | true =>
        go_wp2_with fail
        refine (HBy.out _ H4.out).mono ?_
        rintro e w5 ⟨rfl, hb5⟩
        have H5 : Hid (Below w.heap.size w w5) := below_via H4.out hb5 (Nat.le_refl _)
        clear hb5 g1
        cases hy : (y : Int) == 0 with
        | false =>
          obtain rfl : K = 0 := by rw [HK.out, hx, hy]; rfl
          go_wp2
          go_ret
          exact ⟨rfl, H5.out⟩
        | true =>
          obtain rfl : K = 80 := by rw [HK.out, hx, hy]; rfl
          go_wp2
          go_ret
          exact ⟨rfl, H5.out⟩
end Go.Proofs.YtedoghjefdkmaaaGreat
/-
  How the laws' arguments read (a plain seat).
-/
namespace Go.Proofs.YtedoghjefdkmaaaGreat
open Go.RowKit
/-! ### how an argument reads -/
def IsRow (k : IntKind) (w : World) (a : Option Addr) (len cap : Nat) (zs : List Int) : Prop :=
  (a = none ∧ len = 0 ∧ cap = 0 ∧ zs = []) ∨
  ∃ x, a = some x ∧ len ≤ cap ∧ cap ≤ maxLen ∧ zs.length = cap ∧ (∀ i, i < zs.length → w.cell? (x.add i) = some (.int k (zs.getD i 0))) ∧ ∀ n ∈ zs, (Lit.int k n).wf = true
theorem cell_spot {w : World} {x : Addr} {v : Value} (h : w.cell? x = some v) : x.spot = none ∧ x.block < w.heap.size := by
  unfold World.cell? at h
  split at h
  · rename_i c t f hh
    refine ⟨?_, (Array.getElem?_eq_some_iff.1 hh).1⟩
    by_cases hs : x.spot.isSome
    · simp [hs] at h
    · simpa using hs
  · cases h
theorem IsRow.sl {k : IntKind} {w : World} {a : Option Addr} {len cap : Nat} {zs : List Int} (h : IsRow k w a len cap zs) :
    ∃ X, X.length = len ∧ Sl k w (.slice a len cap) X ∧ ∀ n ∈ X, (Lit.int k n).wf = true := by
  rcases h with ⟨rfl, rfl, rfl, rfl⟩ | ⟨x, rfl, hl, hm, hz, hc, hw⟩
  · exact ⟨[], rfl, ⟨none, 0, rfl, Nat.le_refl _, .inl rfl⟩, by simp⟩
  · refine ⟨zs.take len, by simp; omega, ⟨some x, cap, by simp; omega, by simp; omega, ?_⟩, fun n hn => hw n (List.mem_of_mem_take hn)⟩
    by_cases h0 : len = 0
    · subst h0; exact .inl (by simp)
    · right
      obtain ⟨b, off, sp⟩ := x
      have h1 := cell_spot (hc 0 (by omega))
      have hsp : sp = none := by
        have := h1.1
        cases sp with
        | none => rfl
        | some s => simp [Addr.add] at this
      subst hsp
      have hb : b < w.heap.size := by have := h1.2; simpa [Addr.add] using this
      refine ⟨b, off, rfl, hb, fun i hi => ?_⟩
      simp at hi
      have := hc i (by omega)
      have hadd : (⟨b, off, none⟩ : Addr).add i = ⟨b, off + i, none⟩ := by simp [Addr.add]
      rw [hadd] at this
      rw [this]
      simp [show i < len by omega]
theorem IsRow.sl32 {w : World} {a : Option Addr} {len cap : Nat} {zs : List Int} (h : IsRow .u32 w a len cap zs) : ∃ X, X.length = len ∧ Sl .u32 w (.slice a len cap) X ∧ U32s X := by
  obtain ⟨X, h1, h2, h3⟩ := h.sl
  exact ⟨X, h1, h2, fun n hn => by have := bounds_u32 (h3 n hn); exact ⟨this.1, by omega⟩⟩
theorem IsRow.sl8 {w : World} {a : Option Addr} {len cap : Nat} {zs : List Int} (h : IsRow .u8 w a len cap zs) : ∃ X, X.length = len ∧ Sl .u8 w (.slice a len cap) X ∧ U8s X := by
  obtain ⟨X, h1, h2, h3⟩ := h.sl
  exact ⟨X, h1, h2, fun n hn => by have := bounds_u8 (h3 n hn); exact ⟨this.1, by omega⟩⟩
end Go.Proofs.YtedoghjefdkmaaaGreat
/-
  Ecdsa: the law EcdsaKeys.
-/
namespace Go.Proofs.YtedoghjefdkmaaaGreat
open Go.RowKit
theorem fromS_length {bs : List Int} (hu : U8s bs) : (fromS bs).1.length ≤ bs.length := by
  unfold fromS
  split
  · simp
  · have h := bv_bound hu.rev
    rw [List.length_reverse] at h
    refine lim_len_le (k := bs.length) ?_
    rw [Int.toNat_of_nonneg h.1]
    have h2 : (256 : Int) ^ bs.length ≤ 4294967296 ^ bs.length := by
      have : (((256 : Nat) ^ bs.length : Nat) : Int) ≤ (((4294967296 : Nat) ^ bs.length : Nat) : Int) := Int.ofNat_le.2 (Nat.pow_le_pow_left (by omega) _)
      rw [Int.natCast_pow, Int.natCast_pow] at this
      exact this
    exact Int.lt_of_lt_of_le h.2 h2
set_option maxRecDepth 20000 in
set_option maxHeartbeats 4000000 in
theorem EcdsaKeys_any {w : World} (c : Int) (a1 : Option Addr) (n1 c1 : Nat) (a2 : Option Addr) (n2 c2 : Nat) (X Y : List Int) (a : Option Addr) (n cp : Nat) (S : List Int) (hX : Sl .u32 w (.slice a1 n1 c1) X) (hY : Sl .u32 w (.slice a2 n2 c2) Y) (uX : U32s X) (uY : U32s Y) (lX : X.length = n1) (lY : Y.length = n2) (hS : Sl .u8 w (.slice a n cp) S) (uS : U8s S) (lS : S.length = n) :
    Calls Tryz.prog 3 #[.int .i64 c, .agg #[.slice a1 n1 c1, .slice a2 n2 c2], .slice a n cp] w fun e w' => e = .returned (.bool true) ∧ Below w.heap.size w w' := by
  have HX : Hid (Sl .u32 w (.slice a1 n1 c1) X ∧ Sl .u32 w (.slice a2 n2 c2) Y ∧ U32s X ∧ U32s Y ∧ X.length = n1 ∧ Y.length = n2 ∧ Sl .u8 w (.slice a n cp) S ∧ U8s S ∧ S.length = n) := ⟨hX, hY, uX, uY, lX, lY, hS, uS, lS⟩
  clear hX hY uX uY lX lY hS uS lS
  have HL : Hid (∀ W : World, Calls Tryz.prog 7 #[] W fun e w' => e = .returned (.bool true) ∧ Below W.heap.size W w') := fun W => live10_any
  by_cases h1 : n1 ≤ 600
  · have g1 : decide ((600 : Int) < (n1 : Int)) = false := by simp; omega
    by_cases h2 : n2 ≤ 600
    · have g2 : decide ((600 : Int) < (n2 : Int)) = false := by simp; omega
      by_cases h3 : n ≤ 5000
      · have g3 : decide ((5000 : Int) < (n : Int)) = false := by simp; omega
        have HN : Hid (X.length ≤ 1000000 ∧ Y.length ≤ 1000000 ∧ S.length ≤ 5000) := ⟨by have := HX.out.2.2.2.2.1; omega, by have := HX.out.2.2.2.2.2.1; omega, by have := HX.out.2.2.2.2.2.2.2.2; omega⟩
        have HK : Hid (∀ W, Below w.heap.size w W → Calls Tryz.prog 9 #[.int .i64 c, .agg #[.slice a1 n1 c1, .slice a2 n2 c2]] W fun e w' => e = .returned (.int .i64 (keyS c X Y)) ∧ Below W.heap.size W w') := fun W h => Key_any c a1 n1 c1 a2 n2 c2 X Y (below_sl h HX.out.1) (below_sl h HX.out.2.1) HX.out.2.2.1 HX.out.2.2.2.1 HN.out.1 HN.out.2.1
        have HK2 : Hid (∀ W, Below w.heap.size w W → Calls Tryz.prog 10 #[.int .i64 c, .agg #[.slice a1 n1 c1, .slice a2 n2 c2]] W fun e w' => e = .returned (.int .i64 (keyS c X Y)) ∧ Below W.heap.size W w') := fun W h => RKey_any c a1 n1 c1 a2 n2 c2 X Y (below_sl h HX.out.1) (below_sl h HX.out.2.1) HX.out.2.2.1 HX.out.2.2.2.1 HN.out.1 HN.out.2.1
        have HM : Hid (∀ W, Below w.heap.size w W → Calls Tryz.prog 12 #[.int .i64 c, .slice a n cp] W fun e w' => ∃ r, e = .returned r ∧ Sl .u32 w' r (numS c S) ∧ Below W.heap.size W w') := fun W h => Number_any c a n cp S (below_sl h HX.out.2.2.2.2.2.2.1) HX.out.2.2.2.2.2.2.2.1
        have HM2 : Hid (∀ W, Below w.heap.size w W → Calls Tryz.prog 13 #[.int .i64 c, .slice a n cp] W fun e w' => ∃ r, e = .returned r ∧ Sl .u32 w' r (numS c S) ∧ Below W.heap.size W w') := fun W h => RNumber_any c a n cp S (below_sl h HX.out.2.2.2.2.2.2.1) HX.out.2.2.2.2.2.2.2.1
        have HNs : Hid ((numS c S).length ≤ 1000000) := by
          have hu : U8s (S.take (crvN (·.sz) (crv c))) := fun z hz => HX.out.2.2.2.2.2.2.2.1 z (List.mem_of_mem_take hz)
          show (fromS _).1.length ≤ 1000000
          have := fromS_length hu
          have h4 := HN.out.2.2
          rw [List.length_take] at this
          omega
        obtain ⟨kv, hkv⟩ : ∃ k, keyS c X Y = k := ⟨_, rfl⟩
        rw [hkv] at HK HK2
        obtain ⟨nv, hnv⟩ : ∃ k, numS c S = k := ⟨_, rfl⟩
        rw [hnv] at HM HM2 HNs
        clear hkv hnv h1 h2 h3
        go_enter Tryz.func3, Tryz.ntmps3
        go_upto_region 3 with (fail)
        refine wp_gen (fun W => Blk 24 W w.heap.size [.slice a1 n1 c1, .slice a2 n2 c2] ∧ Below w.heap.size w W) ⟨Blk.new _ w _, al1 _⟩ ?_
        rintro W2 ⟨hB, hBw⟩
        have H2 : Hid (Below w.heap.size w W2 ∧ ∀ W3, Below W2.heap.size W2 W3 → W3.cell? ⟨w.heap.size, 0, none⟩ = some (.slice a1 n1 c1) ∧ W3.cell? ⟨w.heap.size, 1, none⟩ = some (.slice a2 n2 c2)) := ⟨hBw, fun W3 h3 => ⟨(below_blk h3 hB.lt hB).cell 0, (below_blk h3 hB.lt hB).cell 1⟩⟩
        clear hB hBw
        go_region_held3 (fun W => Below W2.heap.size W2 W ∧ W.cell? ⟨w.heap.size, 0, none⟩ = some (.slice a1 n1 c1) ∧ W.cell? ⟨w.heap.size, 1, none⟩ = some (.slice a2 n2 c2))
          (first | assumption | exact (fun h => ⟨h, H2.out.2 _ h⟩) (Below.drew (Below.refl _ _)) | exact (fun h => ⟨h, H2.out.2 _ h⟩) (below_via (And.left (by assumption)) (by assumption) (Nat.le_refl _)))
          (first
          | (go_at_call 8; refine (num10_any _ _).mono ?_; rintro e w' ⟨rfl, rfl⟩)
          | (go_at_call 9; refine (HK.out _ (below_via H2.out.1 (And.left (by assumption)) (Nat.le_refl _))).mono ?_; rintro e w3 ⟨rfl, hb3⟩)
          | (go_at_call 10; refine (HK2.out _ (below_via H2.out.1 (And.left (by assumption)) (Nat.le_refl _))).mono ?_; rintro e w4 ⟨rfl, hb4⟩)
          | (go_at_call 12; refine (HM.out _ (below_via H2.out.1 (And.left (by assumption)) (Nat.le_refl _))).mono ?_; rintro e w5 ⟨r5, rfl, hr5, hb5⟩; have H5 : Hid (Sl .u32 w5 r5 nv) := hr5; clear hr5)
          | (go_at_call 13; refine (HM2.out _ (below_via H2.out.1 (And.left (by assumption)) (Nat.le_refl _))).mono ?_; rintro e w6 ⟨r6, rfl, hr6, hb6⟩; have H6 : Hid (Sl .u32 w6 r5 nv ∧ Sl .u32 w6 r6 nv) := ⟨below_sl hb6 H5.out, hr6⟩; clear hr6)
          | (go_at_call 11; refine (NSame_any _ _ nv H6.out.1 H6.out.2 (by have := HNs.out; omega)).mono ?_; rintro e w7 ⟨rfl, hb7⟩)
          | (go_at_call 7; refine (HL.out _).mono ?_; rintro e w8 ⟨rfl, hb8⟩))
        have H7 : Hid (Below w.heap.size w w8) := below_via H2.out.1 (And.left (by assumption)) (Nat.le_refl _)
        go_wp2
        go_ret
        exact ⟨rfl, H7.out⟩
      · have g3 : decide ((5000 : Int) < (n : Int)) = true := by simp; omega
        go_enter Tryz.func3, Tryz.ntmps3
        go_wp2_with fail
        refine (HL.out _).mono ?_
        rintro e w7 ⟨rfl, hb7⟩
        have H7 : Hid (Below w.heap.size w w7) := below_via (al1 _) hb7 (Nat.le_refl _)
        clear hb7
        go_wp2
        go_ret
        exact ⟨rfl, H7.out⟩
    · have g2 : decide ((600 : Int) < (n2 : Int)) = true := by simp; omega
      go_enter Tryz.func3, Tryz.ntmps3
      go_wp2_with fail
      refine (HL.out _).mono ?_
      rintro e w7 ⟨rfl, hb7⟩
      have H7 : Hid (Below w.heap.size w w7) := below_via (al1 _) hb7 (Nat.le_refl _)
      clear hb7
      go_wp2
      go_ret
      exact ⟨rfl, H7.out⟩
  · have g1 : decide ((600 : Int) < (n1 : Int)) = true := by simp; omega
    go_enter Tryz.func3, Tryz.ntmps3
    go_wp2_with fail
    refine (HL.out _).mono ?_
    rintro e w7 ⟨rfl, hb7⟩
    have H7 : Hid (Below w.heap.size w w7) := below_via (al1 _) hb7 (Nat.le_refl _)
    clear hb7
    go_wp2
    go_ret
    exact ⟨rfl, H7.out⟩
end Go.Proofs.YtedoghjefdkmaaaGreat
