/-
  Ecdsa: the reference's Build; what is built is read again.
-/
import Derived.Deep.RegionHeld3
import Derived.Deep.AppendSrc
import Derived.Test.YtedoghjefdkmaaaK22
namespace Go.Proofs.Ytedoghjefdkmaaa
open Go.RowKit
theorem rput_any {w : World} (t : Nat) (ht : t = 2 ∨ t = 16) (co : Bool) (a : Option Addr) (n cp : Nat) (vs : List Value) (ms : List (List Int)) (hL : Lists w a n cp vs ms) (hN : ms.flatten.length < 65536) (hn : n ≤ 2) :
    Calls Try.prog 27 #[.int .i64 0, .int .i64 (t : Nat), .bool co, .slice a n cp] w fun e w' => ∃ r, e = .returned (.tuple #[r, .int .i64 0]) ∧ Row .u8 5 w.heap.size w' r (enc2 t co ms.flatten) ∧ Below w.heap.size w w' := by
  have hc := lenC_ok hN
  exact RPut_any 0 t 0 (lenC ms.flatten.length) co a n cp ms.flatten.length vs ms hL rfl (by omega) (by omega) (by rcases ht with rfl | rfl <;> rfl) (by rcases ht with rfl | rfl <;> decide) (by intro j hj; omega) (by omega) hc.1 hc.2.1 hc.2.2
set_option maxRecDepth 20000 in
set_option maxHeartbeats 4000000 in
theorem RBuild_any {w : World} (v u : Value) (A B : List Int) (hA : Sl .u32 w v A) (hB : Sl .u32 w u B) (uA : U32s A) (uB : U32s B) (lA : A.length ≤ 600) (lB : B.length ≤ 600) :
    Calls Try.prog 14 #[v, u] w fun e w' => BuildAns A B w w' e := by
  have HLn : Hid (A.length ≤ 600 ∧ B.length ≤ 600) := ⟨lA, lB⟩
  have HX : Hid (Sl .u32 w v A ∧ Sl .u32 w u B ∧ U32s A ∧ U32s B ∧ True) := ⟨hA, hB, uA, uB, trivial⟩
  obtain ⟨a, c, rfl, hc, _⟩ := hA
  obtain ⟨a', c', rfl, hc', _⟩ := hB
  obtain ⟨n, hn⟩ : ∃ n, A.length = n := ⟨_, rfl⟩
  obtain ⟨n', hn'⟩ : ∃ n, B.length = n := ⟨_, rfl⟩
  have HL : Hid (layE A B = if n ≤ 512 ∧ n' ≤ 512 then 0 else 1) := by show layE A B = _; unfold layE; rw [hn, hn']
  rw [hn] at HX
  rw [hn'] at HX
  rw [hn, hn']
  clear hc hc' uA uB lA lB hn hn'
  by_cases h1 : n ≤ 512
  · have g1 : decide ((512 : Int) < (n : Int)) = false := by simp; omega
    by_cases h2 : n' ≤ 512
    · have g2 : decide ((512 : Int) < (n' : Int)) = false := by simp; omega
      replace HL : Hid (layE A B = 0) := HL.out.trans (if_pos ⟨h1, h2⟩)
      go_enter Try.func14, Try.ntmps14
      go_wp2_with fail
      refine (RPutUint_any _ A HX.out.1 HX.out.2.2.1 HLn.out.1).mono ?_
      rintro e w2 ⟨r1, m1, hm1, hm1', rfl, hs1, hb2⟩
      obtain ⟨a1, n1, c1, rfl⟩ := sl_is hs1
      rw [numB_of HX.out.2.2.1 hm1] at hs1
      have H2 : Hid (Sl .u8 w2 (.slice a1 n1 c1) (numB A) ∧ U8s (numB A) ∧ (numB A).length ≤ 2401 ∧ Below w.heap.size w w2) := ⟨hs1, pI_u8 _ _, by rw [← numB_of HX.out.2.2.1 hm1, pI_len]; exact hm1', hb2⟩
      clear hm1 hm1' hs1 hb2
      go_wp2_with fail
      refine (rput_any 2 (.inl rfl) false (some ⟨w2.heap.size, 0, none⟩) 1 1 [.slice a1 n1 c1] [numB A] (lists1 (T := 22) (by exact Blk.new _ w2 _) (sl_alloc H2.out.1 _) H2.out.2.1) (by have := H2.out.2.2.1; simp; omega) (by omega)).mono ?_
      rintro e w3 ⟨p1, rfl, hp1, hb3⟩
      rw [show [numB A].flatten = numB A by simp] at hp1
      obtain ⟨pa1, pc1, hpe⟩ := hp1.ne
      obtain ⟨pn1, hpn⟩ : ∃ x, (enc2 2 false (numB A)).length = x := ⟨_, rfl⟩
      rw [hpn] at hpe
      subst hpe
      have H3 : Hid (Sl .u8 w3 (.slice pa1 pn1 pc1) (enc2 2 false (numB A)) ∧ U8s (enc2 2 false (numB A)) ∧ (enc2 2 false (numB A)).length ≤ 2405 ∧ Below w.heap.size w w3) := ⟨hp1.sl, enc2_u8 (.inl rfl) H2.out.2.1 (by have := H2.out.2.2.1; omega), Nat.le_trans (enc2_len (by decide)) (by have := H2.out.2.2.1; omega), below_via (below_via H2.out.2.2.2 (al1 _) (Nat.le_refl _)) hb3 (Nat.le_refl _)⟩
      clear hp1 hb3 hpn H2
      go_wp2_with fail
      refine (RPutUint_any _ B (below_sl H3.out.2.2.2 HX.out.2.1) HX.out.2.2.2.1 HLn.out.2).mono ?_
      rintro e w4 ⟨r2, m2, hm2, hm2', rfl, hs2, hb4⟩
      obtain ⟨a2, n2, c2, rfl⟩ := sl_is hs2
      rw [numB_of HX.out.2.2.2.1 hm2] at hs2
      have H4 : Hid (Sl .u8 w4 (.slice a2 n2 c2) (numB B) ∧ U8s (numB B) ∧ (numB B).length ≤ 2401 ∧ Below w3.heap.size w3 w4) := ⟨hs2, pI_u8 _ _, by rw [← numB_of HX.out.2.2.2.1 hm2, pI_len]; exact hm2', hb4⟩
      clear hm2 hm2' hs2 hb4
      go_wp2_with fail
      refine (rput_any 2 (.inl rfl) false (some ⟨w4.heap.size, 0, none⟩) 1 1 [.slice a2 n2 c2] [numB B] (lists1 (T := 22) (by exact Blk.new _ w4 _) (sl_alloc H4.out.1 _) H4.out.2.1) (by have := H4.out.2.2.1; simp; omega) (by omega)).mono ?_
      rintro e w5 ⟨p2, rfl, hp2, hb5⟩
      rw [show [numB B].flatten = numB B by simp] at hp2
      obtain ⟨pa2, pc2, hpe⟩ := hp2.ne
      obtain ⟨pn2, hpn⟩ : ∃ x, (enc2 2 false (numB B)).length = x := ⟨_, rfl⟩
      rw [hpn] at hpe
      subst hpe
      have H5 : Hid (Sl .u8 w5 (.slice pa2 pn2 pc2) (enc2 2 false (numB B)) ∧ U8s (enc2 2 false (numB B)) ∧ (enc2 2 false (numB B)).length ≤ 2405 ∧ Below w3.heap.size w3 w5) := ⟨hp2.sl, enc2_u8 (.inl rfl) H4.out.2.1 (by have := H4.out.2.2.1; omega), Nat.le_trans (enc2_len (by decide)) (by have := H4.out.2.2.1; omega), below_via (below_via H4.out.2.2.2 (al1 _) (Nat.le_refl _)) hb5 (Nat.le_refl _)⟩
      clear hp2 hb5 hpn H4
      go_wp2_with fail
      refine (rput_any 16 (.inr rfl) true (some ⟨w5.heap.size, 0, none⟩) 2 2 [.slice pa1 pn1 pc1, .slice pa2 pn2 pc2] [enc2 2 false (numB A), enc2 2 false (numB B)] (lists2 (T := 22) (by exact Blk.new _ w5 _) (sl_alloc (below_sl H5.out.2.2.2 H3.out.1) _) H3.out.2.1 (sl_alloc H5.out.1 _) H5.out.2.1) (by have := H3.out.2.2.1; have := H5.out.2.2.1; simp; omega) (by omega)).mono ?_
      rintro e w6 ⟨p3, rfl, hp3, hb6⟩
      rw [show [enc2 2 false (numB A), enc2 2 false (numB B)].flatten = enc2 2 false (numB A) ++ enc2 2 false (numB B) by simp] at hp3
      have H6 : Hid (Sl .u8 w6 p3 (sigB A B) ∧ Below w.heap.size w w6) := ⟨hp3.sl, below_via (below_via (below_via H3.out.2.2.2 H5.out.2.2.2 (Nat.le_refl _)) (al1 _) (Nat.le_refl _)) hb6 (Nat.le_refl _)⟩
      clear hp3 hb6
      go_wp2
      go_ret2
      exact ⟨p3, by rw [HL.out]; rfl, by rw [HL.out, if_pos rfl]; exact H6.out.1, H6.out.2⟩
    · have g2 : decide ((512 : Int) < (n' : Int)) = true := by simp; omega
      replace HL : Hid (layE A B = 1) := HL.out.trans (if_neg (by omega))
      go_enter Try.func14, Try.ntmps14
      go_wp2
      go_ret2
      exact ⟨.slice none 0 0, by rw [HL.out]; rfl, by rw [HL.out, if_neg (by decide)]; exact Sl.nil0 _ _, Below.refl _ _⟩
  · have g1 : decide ((512 : Int) < (n : Int)) = true := by simp; omega
    replace HL : Hid (layE A B = 1) := HL.out.trans (if_neg (by omega))
    go_enter Try.func14, Try.ntmps14
    go_wp2
    go_ret2
    exact ⟨.slice none 0 0, by rw [HL.out]; rfl, by rw [HL.out, if_neg (by decide)]; exact Sl.nil0 _ _, Below.refl _ _⟩
/-! ### what is built is read again -/
theorem uint_there2 {N m K : Nat} (h : IsU (N : Int) m) (hK : K = 2048) (hN2 : N < 256 ^ K) (hm : m ≤ 2049) : uintS (pI (N : Int) m) = (lim N, 0) := by
  by_cases hm2 : m ≤ 2048
  · exact uint_there h hm2
  · obtain rfl : m = K + 1 := by clear hN2; omega
    have hok := (int_pI h.1 h.2.1).2 h.2.2
    have hq : N / 256 ^ K = 0 := Nat.div_eq_of_lt hN2
    have h0 : (pI (N : Int) (K + 1)).getD 0 0 = (0 : Int) := by
      rw [pI_get _ _ _ (Nat.succ_pos _), show K + 1 - 1 - 0 = K from rfl, qs_nat, pow_256, hq]
      rfl
    unfold uintS
    rw [if_neg (by rw [hok]; simp), h0, if_neg (by decide), if_pos rfl, pI_drop]
    unfold fromS
    rw [if_neg (by rw [pI_len]; clear hN2 hq; omega), bv_full N K hN2, Int.toNat_natCast]
theorem numB_there {A : List Int} (uA : U32s A) (lA : A.length ≤ 512) : uintS (numB A) = (lim (val A).toNat, 0) ∧ (numB A).length ≤ 2049 ∧ U8s (numB A) := by
  have h0 := val_nonneg uA
  have hv : ((val A).toNat : Int) = val A := Int.toNat_of_nonneg h0
  have hb := bitLen_val uA
  have h1 := isU_bits (val A).toNat
  have hm : bitLen (val A).toNat / 8 + 1 ≤ 2049 := by omega
  obtain ⟨K, hK⟩ : ∃ K : Nat, K = 2048 := ⟨_, rfl⟩
  have hKb : bitLen (val A).toNat ≤ 8 * K := by omega
  have hlt : (val A).toNat < 256 ^ K := by
    have h2 := bitLen_spec (val A).toNat
    have h3 : 2 ^ bitLen (val A).toNat ≤ 2 ^ (8 * K) := Nat.pow_le_pow_right (by decide) hKb
    rw [pow_256] at h3
    exact Nat.lt_of_lt_of_le h2.1 h3
  have h4 := uint_there2 h1 hK hlt hm
  rw [hv] at h4
  unfold numB
  exact ⟨h4, by rw [pI_len]; exact hm, pI_u8 _ _⟩
def elOf (t : Nat) (co : Bool) (d : List Int) : El := ⟨0, t, co, d, enc2 t co d⟩
theorem elOf_laid {t : Nat} {co : Bool} {d : List Int} (ht : t = 2 ∨ t = 16) (hl : d.length < 65536) : Laid (elOf t co d) := by
  have hc := lenC_ok hl
  exact ⟨t, 0, lenC d.length, rfl, rfl, by rcases ht with rfl | rfl <;> rfl, by rcases ht with rfl | rfl <;> simp, by intro j hj; omega, hc.1, hc.2.1, hc.2.2, by show d.length ≤ _; omega⟩
theorem sig_there {A B : List Int} (uA : U32s A) (uB : U32s B) (lA : A.length ≤ 512) (lB : B.length ≤ 512) : ecS (sigB A B) = (lim (val A).toNat, lim (val B).toNat, 0) ∧ U8s (sigB A B) ∧ (sigB A B).length ≤ 4200 := by
  obtain ⟨a1, a2, a3⟩ := numB_there uA lA
  obtain ⟨b1, b2, b3⟩ := numB_there uB lB
  have ea := enc2_u8 (t := 2) (co := false) (.inl rfl) a3 (by omega)
  have eb := enc2_u8 (t := 2) (co := false) (.inl rfl) b3 (by omega)
  have la := enc2_len (t := 2) (co := false) (d := numB A) (by decide)
  have lb := enc2_len (t := 2) (co := false) (d := numB B) (by decide)
  obtain ⟨D, hD⟩ : ∃ D, enc2 2 false (numB A) ++ enc2 2 false (numB B) = D := ⟨_, rfl⟩
  have lD : D.length ≤ 4110 := by rw [← hD, List.length_append]; omega
  have uD : U8s D := by rw [← hD]; exact sig_u8 ea eb
  have uS := enc2_u8 (t := 16) (co := true) (.inr rfl) uD (by omega)
  have lS := enc2_len (t := 16) (co := true) (d := D) (by decide)
  have s1 : splitS (sigB A B) = .ok [elOf 16 true D] := by
    have he : sigB A B = enc2 16 true D := by rw [← hD]; rfl
    rw [he]
    refine split_laid uS [elOf 16 true D] (fun x hx => ?_) ?_ (by simp) (by omega)
    · rw [List.mem_singleton] at hx; subst hx; exact elOf_laid (.inr rfl) (by omega)
    · simp [rawOf, elOf]
  have s2 : splitS D = .ok [elOf 2 false (numB A), elOf 2 false (numB B)] := by
    refine split_laid uD _ (fun x hx => ?_) ?_ (by simp) (by omega)
    · simp only [List.mem_cons, List.not_mem_nil, or_false] at hx
      rcases hx with rfl | rfl
      · exact elOf_laid (.inl rfl) (by omega)
      · exact elOf_laid (.inl rfl) (by omega)
    · rw [← hD]; simp [rawOf, elOf]
  refine ⟨?_, by have he : sigB A B = enc2 16 true D := by rw [← hD]; rfl
                 rw [he]; exact uS, by have he : sigB A B = enc2 16 true D := by rw [← hD]; rfl
                                       rw [he]; omega⟩
  unfold ecS
  rw [s1]
  show ecO (elOf 16 true D, 0) = _
  unfold ecO
  rw [if_neg (by simp), if_neg (by simp [elOf, kindB])]
  show ecL (splitS D) = _
  rw [s2]
  show ecP _ _ = _
  unfold ecP
  rw [if_neg (by simp [elOf, kindB])]
  show (if (uintS (numB A)).2 ≠ 0 then _ else if (uintS (numB B)).2 ≠ 0 then _ else ((uintS (numB A)).1, (uintS (numB B)).1, 0)) = _
  rw [a1, b1]
  rfl
end Go.Proofs.Ytedoghjefdkmaaa
/-
  Der: of the reference: Digits, Trim (picked from W33, W37 by pick.py).
-/
namespace Go.Proofs.Ytedoghjefdkmaaa
open Go.RowKit
set_option maxRecDepth 6000
theorem and16 (x : Int) (h0 : 0 ≤ x) (h1 : x < 4294967296) : bits BinOp.and .u32 x 65535 = x % 65536 := by go_bits2
set_option maxHeartbeats 2000000 in
theorem Digits_any {w : World} (v : Value) (X : List Int) (hX : Sl .u32 w v X) (uX : U32s X) (hl : X.length ≤ 8796093022208) (N : Int) (hN : val X = N) :
    Calls Try.prog 30 #[v] w fun e w' => ∃ r, e = .returned r ∧ Sl .u64 w' r (D.lim N.toNat) ∧ Below w.heap.size w w' := by
  have hX0 := hX
  obtain ⟨a, c, hv, hc⟩ := hX.len
  subst hv
  have HN : Hid (val X = N) := hN
  clear hN
  go_enter Try.func30, Try.ntmps30
  go_wp2
  go_loopw [3, 4] (fun o i wr => ∃ k : Nat, k ≤ X.length ∧ i = .int .i64 k ∧ Row .u64 80 w.heap.size wr o (split (X.take k)) ∧ Below w.heap.size w wr) (fun _ i _ => X.length - (intOf i).toNat)
  case atStart => exact ⟨0, by omega, rfl, Row.nil _ _ _ _, Below.refl _ _⟩
  case round =>
    obtain ⟨k, hk, rfl, hrow, hBt⟩ := hrel
    by_cases hlt : k < X.length
    · obtain ⟨x, hx⟩ : ∃ x, X.getD k 0 = x := ⟨_, rfl⟩
      have ux : U32 x := hx ▸ uX.at k
      obtain ⟨ux1, ux2⟩ := ux
      obtain ⟨b, off, ha, hb, hr⟩ : ∃ b off, a = some ⟨b, off, none⟩ ∧ b < w.heap.size ∧ Rd .u32 w b off X := by
        obtain ⟨a', c', h1, _, h2⟩ := hX0
        cases h1
        rcases h2 with rfl | ⟨b, off, rfl, hb, hr⟩
        · simp at hlt
        · exact ⟨b, off, rfl, hb, hr⟩
      subst ha
      have hcx : wr.cell? ⟨b, off + k, none⟩ = some (.int .u32 x) := by rw [hBt.cell hb, hr k hlt, hx]
      have e1 := and16 x ux1 ux2
      have hw1 : IntKind.u64.wrap (x % 65536) = x % 65536 := by rw [IntKind.wrap_u64]; omega
      have hw2 : IntKind.u64.wrap (x / 65536) = x / 65536 := by rw [IntKind.wrap_u64]; omega
      have HH : Hid (X.getD k 0 = x ∧ Below w.heap.size w wr) := ⟨hx, hBt⟩
      have hsz : w.heap.size ≤ wr.heap.size := hBt.size
      have hlen : (split (X.take k)).length = 2 * k := by rw [split_length]; simp; omega
      have HL : Hid ((split (X.take k)).length = 2 * k) := hlen
      have hk0 : (0 : Int) ≤ (k : Int) := by omega
      have hkl : (k : Int) < (X.length : Int) := by omega
      clear hx hr hX hX0 hBt hlen
      go_wp2
      go_region_held3 (fun w' => w'.cell? ⟨b, off + k, none⟩ = some (.int .u32 x)) (first | go_keep | (rw [hB1.cell hb]; go_keep))
        ((refine step_ap (by rfl) (.tmp 11) (.tmp 24) 61 61 (by rfl) .u64 80 8 Try.und64 Try.info64 (by decide) w.heap.size _ (split (X.take k)) (by rfl) (Row.alloc (by assumption) _) _ [x % 65536, x / 65536] (by rfl) (src_sl Try.und64 (Arr.sl64 (S := [x % 65536, x / 65536]) (arr_new rfl rfl))) (by rw [HL.out]; show (2 * k + 2) * 8 ≤ _; omega) (by simp; omega) ?_; intro v1 w1 hr1 hg1; have hB1 := hg1.below (Row.alloc (by assumption) _) (by simp; omega)))
      all_goals go_wp2
      go_roundw
      case rel =>
        obtain ⟨hx, hBt⟩ := HH.out
        refine ⟨k + 1, by omega, by go_num, ?_, (al hBt).drew.trans hB1⟩
        rw [split_snoc X hlt, hx]; exact hr1
      case measure => simp [intOf]; omega
    · have hfull : X.take k = X := List.take_of_length_le (by omega)
      rw [hfull] at hrow
      have hs := hrow.sl
      clear hfull hX hX0 hrow
      go_wp2_with (go_at_call 47; refine (plain_sl _ (split X) hs (split_u16 uX) (by rw [split_length]; omega) N (by rw [split_val]; exact HN.out)).mono ?_; rintro e w' ⟨r, rfl, hr, rfl⟩)
      go_ret
      exact ⟨r, rfl, hr, hBt⟩
theorem pow16_32 (n : Nat) : (65536 : Int) ^ (2 * n) = 4294967296 ^ n := by rw [Int.pow_mul]; rfl
theorem RTrim_any {w : World} (v : Value) (X : List Int) (hX : Sl .u32 w v X) (uX : U32s X) (hl : X.length ≤ 268435456) (N : Int) (hN : val X = N) :
    Calls Try.prog 17 #[v] w fun e w' => ∃ r, e = .returned r ∧ Sl .u32 w' r (lim N.toNat) ∧ Below w.heap.size w w' := by
  have nN : 0 ≤ N := hN ▸ val_nonneg uX
  have bX := val_lt uX
  rw [hN] at bX
  have dN : (D.lim N.toNat).length ≤ 2 * X.length := D.lim_fits nN (by rw [pow16_32]; exact bX)
  have HX : Hid (val X = N) := hN
  have HV : Hid (D.val (D.lim N.toNat) = N) := D.val_limI nN
  have hBt : Below w.heap.size w w := Below.refl _ _
  clear hN bX nN
  go_enter Try.func17, Try.ntmps17
  go_wp2_with (first
    | (go_at_call 30; refine (Digits_any _ X hX uX (by omega) N HX.out).mono ?_; rintro e w' ⟨p, rfl, hp, hB⟩; replace hBt := grow0 hBt hB)
    | (go_at_call 29; refine (Limbs_any _ _ hp (D.lim_u16 _) (by omega) N HV.out).mono ?_; rintro e w' ⟨o, rfl, ho, hB⟩; replace hBt := grow0 hBt hB))
  go_ret
  exact ⟨_, rfl, ho, hBt⟩
end Go.Proofs.Ytedoghjefdkmaaa
/-
  The walk of Bytes.
-/
namespace Go.Proofs.Ytedoghjefdkmaaa.Nt
open Go.RowKit

/-- n bytes of a number, the highest first. -/
def beb (v : Int) (n : Nat) : List Int := (List.range n).map fun k => v / 256 ^ (n - 1 - k) % 256
theorem beb_len (v : Int) (n : Nat) : (beb v n).length = n := by simp [beb]
theorem beb_get (v : Int) (n k : Nat) (h : k < n) : (beb v n).getD k 0 = v / 256 ^ (n - 1 - k) % 256 := by simp [beb, h]
theorem getD_ext {xs ys : List Int} (hl : xs.length = ys.length) (h : ∀ k, k < xs.length → xs.getD k 0 = ys.getD k 0) : xs = ys := by
  apply List.ext_getElem hl
  intro k h1 h2
  have := h k h1
  simpa [h1, h2] using this
theorem beb_u8 (v : Int) (n : Nat) : U8s (beb v n) := by
  intro x hx
  simp only [beb, List.mem_map] at hx
  obtain ⟨k, _, rfl⟩ := hx
  exact ⟨by omega, by omega⟩
theorem byte_of {X : List Int} (hu : U32s X) (i : Nat) : X.getD (i / 4) 0 / 2 ^ (i % 4 * 8) % 256 = val X / 256 ^ i % 256 := by
  have h := getD_div X (i / 4) hu
  obtain ⟨n, hn⟩ := Int.eq_ofNat_of_zero_le (val_nonneg hu)
  obtain ⟨z, hz⟩ := Int.eq_ofNat_of_zero_le (hu.at (i / 4)).1
  rw [hn, hz] at h
  simp only [Int.toNat_natCast] at h
  rw [hn, hz, pow256, pow32, ← h]
  have e0 : ((2 : Int) ^ (i % 4 * 8)) = ((2 ^ (i % 4 * 8) : Nat) : Int) := by simp
  rw [e0]
  have key : n / 2 ^ (32 * (i / 4)) % 4294967296 / 2 ^ (i % 4 * 8) % 256 = n / (2 ^ (32 * (i / 4)) * 2 ^ (i % 4 * 8)) % 256 := by
    obtain ⟨s, hs⟩ : ∃ s, i % 4 * 8 = s := ⟨_, rfl⟩
    rw [hs]
    have hs24 : s ≤ 24 := by omega
    have e : (4294967296 : Nat) = 2 ^ s * 2 ^ (32 - s) := by rw [← Nat.pow_add, show s + (32 - s) = 32 by omega]
    rw [e, Nat.mod_mul_right_div_self, Nat.div_div_eq_div_mul]
    have e3 : 2 ^ (32 - s) = 256 * 2 ^ (24 - s) := by rw [show (256 : Nat) = 2 ^ 8 from rfl, ← Nat.pow_add]; congr 1; omega
    rw [e3, Nat.mod_mul_right_mod]
  have k2 := congrArg (fun t : Nat => (t : Int)) key
  simp only [Int.natCast_emod, Int.natCast_ediv, Int.natCast_mul] at k2 ⊢
  exact k2
theorem high_zero {X : List Int} (hu : U32s X) {j : Nat} (h : 4 * sig X ≤ j) : val X / 256 ^ j % 256 = 0 := by
  have h1 : val X < 256 ^ j := by
    have h2 := val_lt (hu.take (sig X))
    rw [val_take_sig, List.length_take, Nat.min_eq_left (sig_le X)] at h2
    have h3 : (4294967296 : Int) ^ sig X = 256 ^ (4 * sig X) := by rw [Int.pow_mul]; rfl
    obtain ⟨d, rfl⟩ := Nat.le.dest h
    rw [Int.pow_add, ← h3]
    have h4 : (0 : Int) < 256 ^ d := Int.pow_pos (by decide)
    calc val X < 4294967296 ^ sig X * 1 := by omega
      _ ≤ 4294967296 ^ sig X * 256 ^ d := Int.mul_le_mul_of_nonneg_left (by omega) (Int.le_of_lt (pow_pos32 _))
  rw [Int.ediv_eq_zero_of_lt (val_nonneg hu) h1]; rfl

def bytS (X : List Int) (n : Int) : List Int × Int := if 512 < X.length then ([], 3) else if n < 0 ∨ 2048 < n then ([], 1) else if 8 * n < bitLen (val X).toNat then ([], 3) else (beb (val X) n.toNat, 0)
/-- Bytes and an error, as two results. -/
def Own8 (B : Nat) (w : World) (v : Value) (bs : List Int) : Prop := (v = .slice none 0 0 ∧ bs = []) ∨ ∃ b, v = .slice (some ⟨b, 0, none⟩) bs.length bs.length ∧ B ≤ b ∧ Arr .u8 5 w b bs
def Two8 (B : Nat) (w : World) (e : Ending) (s : List Int × Int) : Prop := ∃ r, e = .returned (.tuple #[r, .int .i64 s.2]) ∧ Own8 B w r s.1 ∧ (s.2 = 0 → r ≠ .slice none 0 0)
theorem Two8.nil' {B : Nat} {w : World} {n : Int} {s : List Int × Int} (hs : s = ([], n)) (hn : n ≠ 0) : Two8 B w (.returned (.tuple #[.slice none 0 0, .int .i64 n])) s := by
  subst hs; exact ⟨_, rfl, .inl ⟨rfl, rfl⟩, fun h => absurd h hn⟩
theorem Two8.mk' {B : Nat} {w : World} {r : Value} {n : Int} {bs : List Int} {s : List Int × Int} (h : Own8 B w r bs) (hs : s = (bs, n)) (hr : r ≠ .slice none 0 0) : Two8 B w (.returned (.tuple #[r, .int .i64 n])) s := by
  subst hs; exact ⟨r, rfl, h, fun _ => hr⟩
theorem Own8.sl {B : Nat} {w : World} {v : Value} {bs : List Int} (h : Own8 B w v bs) : Sl .u8 w v bs := by
  rcases h with ⟨rfl, rfl⟩ | ⟨b, rfl, _, hA⟩
  · exact ⟨none, 0, rfl, Nat.le_refl _, .inl rfl⟩
  · exact ⟨_, _, rfl, Nat.le_refl _, .inr ⟨b, 0, rfl, hA.lt, by have := hA.rd 0 bs.length (by omega); rw [List.drop_zero, List.take_length] at this; exact this⟩⟩

end Go.Proofs.Ytedoghjefdkmaaa.Nt
/-
  The walks of Same, SameBytes, num; literals in memory.
-/
namespace Go.Proofs.Ytedoghjefdkmaaa.Nt
open Go.RowKit

set_option maxHeartbeats 1000000 in
theorem Same_any {w : World} (v u : Value) (xs : List Int) (hx : Sl .u32 w v xs) (hy : Sl .u32 w u xs) (lx : xs.length ≤ 1152921504606846976) :
    Calls Try.prog 9 #[v, u] w fun e w' => e = .returned (.bool true) ∧ Below w.heap.size w w' := by
  obtain ⟨a1, c1, rfl, hc1, h1⟩ := hx
  obtain ⟨a2, c2, rfl, hc2, h2⟩ := hy
  by_cases hne : xs = []
  · subst hne
    simp only [List.length_nil]
    go_enter Try.func9, Try.ntmps9
    go_wp2
    go_loop [5] (fun i => i = .int .i64 0) (fun _ => 0)
    case atStart => rfl
    case round =>
      subst hrel
      go_wp2
      go_ret
      exact ⟨rfl, Below.refl _ _⟩
  · rcases h1 with h1 | ⟨b1, o1, rfl, hb1, hr1⟩
    · exact absurd h1 hne
    rcases h2 with h2 | ⟨b2, o2, rfl, hb2, hr2⟩
    · exact absurd h2 hne
    obtain ⟨n, hn⟩ : ∃ n, xs.length = n := ⟨_, rfl⟩
    rw [hn] at lx hc1 hc2 ⊢
    have HN : Hid (xs.length = n) := hn
    clear hn hne
    go_enter Try.func9, Try.ntmps9
    go_wp2
    go_loopw [5] (fun i wr => ∃ k : Nat, k ≤ n ∧ i = .int .i64 k ∧ Below w.heap.size w wr) (fun i _ => n - (intOf i).toNat)
    case atStart => exact ⟨0, Nat.zero_le _, rfl, Below.refl _ _⟩
    case round =>
      obtain ⟨k, hk, rfl, hB⟩ := hrel
      by_cases hkn : k < n
      · obtain ⟨x, hx⟩ : ∃ x, xs.getD k 0 = x := ⟨_, rfl⟩
        have hcx : wr.cell? ⟨b1, o1 + k, none⟩ = some (.int .u32 x) := by rw [← hx]; exact (below_rd hB hb1 hr1) k (by rw [HN.out]; exact hkn)
        have hcy : wr.cell? ⟨b2, o2 + k, none⟩ = some (.int .u32 x) := by rw [← hx]; exact (below_rd hB hb2 hr2) k (by rw [HN.out]; exact hkn)
        have HB : Hid (Below w.heap.size w wr) := hB
        clear hx hB hr1 hr2
        go_wp2
        go_quiet (fail)
        go_wp2
        go_roundw
        case rel => exact ⟨k + 1, by omega, by go_num, HB.out.trans ⟨rfl, rfl, rfl, Nat.le_refl _, fun _ _ => rfl⟩⟩
        case measure => simp [intOf]; omega
      · have HB : Hid (Below w.heap.size w wr) := hB
        clear hB
        go_wp2
        go_ret
        exact ⟨rfl, HB.out⟩

set_option maxHeartbeats 1000000 in
theorem SameBytes_any {w : World} (v u : Value) (xs : List Int) (hx : Sl .u8 w v xs) (hy : Sl .u8 w u xs) (lx : xs.length ≤ 1152921504606846976) :
    Calls Try.prog 15 #[v, u] w fun e w' => e = .returned (.bool true) ∧ Below w.heap.size w w' := by
  obtain ⟨a1, c1, rfl, hc1, h1⟩ := hx
  obtain ⟨a2, c2, rfl, hc2, h2⟩ := hy
  by_cases hne : xs = []
  · subst hne
    simp only [List.length_nil]
    go_enter Try.func15, Try.ntmps15
    go_wp2
    go_loop [5] (fun i => i = .int .i64 0) (fun _ => 0)
    case atStart => rfl
    case round =>
      subst hrel
      go_wp2
      go_ret
      exact ⟨rfl, Below.refl _ _⟩
  · rcases h1 with h1 | ⟨b1, o1, rfl, hb1, hr1⟩
    · exact absurd h1 hne
    rcases h2 with h2 | ⟨b2, o2, rfl, hb2, hr2⟩
    · exact absurd h2 hne
    obtain ⟨n, hn⟩ : ∃ n, xs.length = n := ⟨_, rfl⟩
    rw [hn] at lx hc1 hc2 ⊢
    have HN : Hid (xs.length = n) := hn
    clear hn hne
    go_enter Try.func15, Try.ntmps15
    go_wp2
    go_loopw [5] (fun i wr => ∃ k : Nat, k ≤ n ∧ i = .int .i64 k ∧ Below w.heap.size w wr) (fun i _ => n - (intOf i).toNat)
    case atStart => exact ⟨0, Nat.zero_le _, rfl, Below.refl _ _⟩
    case round =>
      obtain ⟨k, hk, rfl, hB⟩ := hrel
      by_cases hkn : k < n
      · obtain ⟨x, hx⟩ : ∃ x, xs.getD k 0 = x := ⟨_, rfl⟩
        have hcx : wr.cell? ⟨b1, o1 + k, none⟩ = some (.int .u8 x) := by rw [← hx]; exact (below_rd hB hb1 hr1) k (by rw [HN.out]; exact hkn)
        have hcy : wr.cell? ⟨b2, o2 + k, none⟩ = some (.int .u8 x) := by rw [← hx]; exact (below_rd hB hb2 hr2) k (by rw [HN.out]; exact hkn)
        have HB : Hid (Below w.heap.size w wr) := hB
        clear hx hB hr1 hr2
        go_wp2
        go_quiet (fail)
        go_wp2
        go_roundw
        case rel => exact ⟨k + 1, by omega, by go_num, HB.out.trans ⟨rfl, rfl, rfl, Nat.le_refl _, fun _ _ => rfl⟩⟩
        case measure => simp [intOf]; omega
      · have HB : Hid (Below w.heap.size w wr) := hB
        clear hB
        go_wp2
        go_ret
        exact ⟨rfl, HB.out⟩

theorem arr_new {k : IntKind} {e : TypeId} {w : World} {b : Nat} {cs : Array Value} {xs : List Int} (hb : b = w.heap.size) (h : cs = (xs.map (Value.int k)).toArray) : Arr k e (w.alloc (.cells cs e)) b xs := by
  subst hb; subst h; unfold Arr; rw [heap_alloc_new]
theorem arr_old {k : IntKind} {e : TypeId} {w : World} {b : Nat} {xs : List Int} {o : Obj} (h : Arr k e w b xs) : Arr k e (w.alloc o) b xs := by
  exact below_arr ((Below.refl _ _).alloc (Nat.le_refl _) o) h.lt h
theorem al1 {k : IntKind} {w : World} {v : Value} {xs : List Int} {o : Obj} (h : Sl k w v xs) : Sl k (w.alloc o) v xs := below_sl ((Below.refl _ _).alloc (Nat.le_refl _) o) h
theorem grow0 {a w w' : World} (h : Below a.heap.size a w) (hB : Below w.heap.size w w') : Below a.heap.size a w' := h.trans (hB.mono h.size)
theorem al {a w : World} {o : Obj} (h : Below a.heap.size a w) : Below a.heap.size a (w.alloc o) := h.alloc h.size o
theorem _root_.Go.Proofs.Ytedoghjefdkmaaa.Arr.sl8 {w : World} {b : Nat} {S : List Int} (h : Arr .u8 5 w b S) : Sl .u8 w (.slice (some ⟨b, 0, none⟩) S.length S.length) S :=
  ⟨_, _, rfl, Nat.le_refl _, .inr ⟨b, 0, rfl, h.lt, by have := h.rd 0 S.length (by omega); rw [List.drop_zero, List.take_length] at this; exact this⟩⟩
theorem lim_of {N : Int} {xs : List Int} (hu : U32s xs) (hs : sig xs = xs.length) (h : val xs = N) : lim N.toNat = xs := by rw [← h]; exact lim_val hu hs
theorem u1 {x : Int} (h : 0 ≤ x) (h' : x < 4294967296) : U32s [x] := U32s.cons ⟨h, h'⟩ U32s.nil
theorem u2 {x y : Int} (h : 0 ≤ x) (h' : x < 4294967296) (k : 0 ≤ y) (k' : y < 4294967296) : U32s [x, y] := U32s.cons ⟨h, h'⟩ (u1 k k')
theorem u3 {x y z : Int} (h : 0 ≤ x) (h' : x < 4294967296) (k : 0 ≤ y) (k' : y < 4294967296) (j : 0 ≤ z) (j' : z < 4294967296) : U32s [x, y, z] := U32s.cons ⟨h, h'⟩ (u2 k k' j j')

/-! ### the page's examples, one by one -/
theorem live_add {w : World} {v u : Value} (h : Sl .u32 w v [4294967295]) (h' : Sl .u32 w u [1]) :
    Calls Try.prog 83 #[v, u] w fun e w' => ∃ r, e = .returned (.tuple #[r, .int .i64 0]) ∧ Sl .u32 w' r [0, 1] ∧ Below w.heap.size w w' := by
  refine (Add_any _ _ _ _ _ h h' (u1 (by decide) (by decide)) (u1 (by decide) (by decide))).mono ?_
  have e1 : addS [4294967295] [1] = ([0, 1], 0) := by
    have : lim (val [4294967295] + val [1]).toNat = [0, 1] := lim_of (u2 (by decide) (by decide) (by decide) (by decide)) (by decide) (by decide)
    simp [addS, this, fit]
  rintro e w' ⟨⟨r, rfl, hr⟩, hB⟩
  rw [e1] at hr
  exact ⟨r, by rw [e1], hr.sl, hB⟩
theorem live_sub {w : World} {v u : Value} (h : Sl .u32 w v [0, 1]) (h' : Sl .u32 w u [1]) :
    Calls Try.prog 84 #[v, u] w fun e w' => ∃ r, e = .returned (.tuple #[r, .int .i64 0]) ∧ Sl .u32 w' r [4294967295] ∧ Below w.heap.size w w' := by
  refine (Sub_any _ _ _ _ _ h h' (u2 (by decide) (by decide) (by decide) (by decide)) (u1 (by decide) (by decide))).mono ?_
  have e1 : subS [0, 1] [1] = ([4294967295], 0) := by
    have : lim (val [0, 1] - val [1]).toNat = [4294967295] := lim_of (u1 (by decide) (by decide)) (by decide) (by decide)
    have h2 : ¬ val [0, 1] < val [1] := by decide
    simp [subS, this, h2]
  rintro e w' ⟨⟨r, rfl, hr⟩, hB⟩
  rw [e1] at hr
  exact ⟨r, by rw [e1], hr.sl, hB⟩
theorem live_mul {w : World} {v u : Value} (h : Sl .u32 w v [0, 1]) (h' : Sl .u32 w u [0, 1]) :
    Calls Try.prog 85 #[v, u] w fun e w' => ∃ r, e = .returned (.tuple #[r, .int .i64 0]) ∧ Sl .u32 w' r [0, 0, 1] ∧ Below w.heap.size w w' := by
  refine (Mul_any _ _ _ _ _ h h' (u2 (by decide) (by decide) (by decide) (by decide)) (u2 (by decide) (by decide) (by decide) (by decide))).mono ?_
  have e1 : mulS [0, 1] [0, 1] = ([0, 0, 1], 0) := by
    have : lim (val [0, 1] * val [0, 1]).toNat = [0, 0, 1] := lim_of (u3 (by decide) (by decide) (by decide) (by decide) (by decide) (by decide)) (by decide) (by decide)
    simp [mulS, this, fit]
  rintro e w' ⟨⟨r, rfl, hr⟩, hB⟩
  rw [e1] at hr
  exact ⟨r, by rw [e1], hr.sl, hB⟩
theorem live_div {w : World} {v u : Value} (h : Sl .u32 w v [7]) (h' : Sl .u32 w u [2]) :
    Calls Try.prog 86 #[v, u] w fun e w' => ∃ q r, e = .returned (.tuple #[q, r, .int .i64 0]) ∧ Sl .u32 w' q [3] ∧ Sl .u32 w' r [1] ∧ Below w.heap.size w w' := by
  refine (DivMod_any _ _ _ _ _ h h' (u1 (by decide) (by decide)) (u1 (by decide) (by decide)) (.inl (by decide))).mono ?_
  have e1 : divS [7] [2] = ([3], [1], 0) := by
    have t1 : lim (val [7] / val [2]).toNat = [3] := lim_of (u1 (by decide) (by decide)) (by decide) (by decide)
    have t2 : lim (val [7] % val [2]).toNat = [1] := lim_of (u1 (by decide) (by decide)) (by decide) (by decide)
    have h2 : ¬ val [2] = 0 := by decide
    simp [divS, t1, t2, h2]
  rintro e w' ⟨⟨q, r, rfl, hq, hr⟩, hB⟩
  rw [e1] at hr hq
  exact ⟨q, r, by rw [e1], hq.sl, hr.sl, hB⟩
end Go.Proofs.Ytedoghjefdkmaaa.Nt
/-
  append onto a slice that lies in a whole block of its own (or is nil), from whatever source, in the words of Base.
-/
namespace Go.Proofs.Ytedoghjefdkmaaa.Nt
open Go.RowKit

/-- A slice of the call's own: memory from block B on, the head of a whole block of numbers, or nil; it reads xs. -/
def Row (k : IntKind) (e : TypeId) (B : Nat) (w : World) (v : Value) (xs : List Int) : Prop :=
  (v = .slice none 0 0 ∧ xs = []) ∨ ∃ b S, v = .slice (some ⟨b, 0, none⟩) xs.length S.length ∧ B ≤ b ∧ Arr k e w b S ∧ xs.length ≤ S.length ∧ S.take xs.length = xs ∧ S.length ≤ maxLen
/-- What an append has done: only new memory, or the spare room of v's block has been written. -/
def Grew (k : IntKind) (e : TypeId) (w w' : World) (v : Value) (ys : List Int) : Prop :=
  Below w.heap.size w w' ∨ ∃ b n S, v = .slice (some ⟨b, 0, none⟩) n S.length ∧ Arr k e w b S ∧ Upd w w' b ∧ n + ys.length ≤ S.length ∧ Arr k e w' b (S.take n ++ ys ++ S.drop (n + ys.length))

theorem Row.nil (k : IntKind) (e : TypeId) (B : Nat) (w : World) : Row k e B w (.slice none 0 0) [] := .inl ⟨rfl, rfl⟩
theorem Row.sl {k : IntKind} {e : TypeId} {B : Nat} {w : World} {v : Value} {xs : List Int} (h : Row k e B w v xs) : Sl k w v xs := by
  rcases h with ⟨rfl, rfl⟩ | ⟨b, S, rfl, _, hA, hl, ht, _⟩
  · exact ⟨none, 0, rfl, Nat.le_refl _, .inl rfl⟩
  · refine ⟨_, _, rfl, hl, .inr ⟨b, 0, rfl, hA.lt, ?_⟩⟩
    have := hA.rd 0 xs.length (by omega)
    rw [List.drop_zero, ht] at this; exact this
theorem Row.below {k : IntKind} {e : TypeId} {B : Nat} {w w' : World} {v : Value} {xs : List Int} (h : Row k e B w v xs) (hb : Below w.heap.size w w') : Row k e B w' v xs := by
  rcases h with h | ⟨b, S, rfl, h1, hA, h2⟩
  · exact .inl h
  · exact .inr ⟨b, S, rfl, h1, below_arr hb hA.lt hA, h2⟩
theorem Row.mono {k : IntKind} {e : TypeId} {B B' : Nat} {w : World} {v : Value} {xs : List Int} (h : Row k e B w v xs) (hb : B' ≤ B) : Row k e B' w v xs := by
  rcases h with h | ⟨b, S, rfl, h1, h2⟩
  · exact .inl h
  · exact .inr ⟨b, S, rfl, by omega, h2⟩
theorem Row.ne {k : IntKind} {e : TypeId} {B : Nat} {w : World} {v : Value} {xs : List Int} (h : Row k e B w v xs) : ∃ a c, v = .slice a xs.length c := by
  rcases h with ⟨rfl, rfl⟩ | ⟨b, S, rfl, _⟩
  · exact ⟨_, _, rfl⟩
  · exact ⟨_, _, rfl⟩
theorem Row.open {k : IntKind} {e : TypeId} {B : Nat} {w : World} {v : Value} {xs : List Int} (h : Row k e B w v xs) (n : Nat) (hn : xs.length = n) (h0 : 0 < n) :
    ∃ b S, v = .slice (some ⟨b, 0, none⟩) n S.length ∧ B ≤ b ∧ Arr k e w b S ∧ n ≤ S.length ∧ S.take n = xs ∧ S.length ≤ maxLen := by
  subst hn
  rcases h with ⟨_, rfl⟩ | h
  · simp at h0
  · exact h
theorem Row.arr {k : IntKind} {e : TypeId} {B : Nat} {w : World} {b : Nat} {S : List Int} (h : Arr k e w b S) (hB : B ≤ b) (hl : S.length ≤ maxLen) : Row k e B w (.slice (some ⟨b, 0, none⟩) S.length S.length) S :=
  .inr ⟨b, S, rfl, hB, h, Nat.le_refl _, List.take_length, hl⟩
theorem Row.alloc {k : IntKind} {e : TypeId} {B : Nat} {w : World} {v : Value} {xs : List Int} (h : Row k e B w v xs) (o : Obj) : Row k e B (w.alloc o) v xs :=
  h.below ((Below.refl _ _).alloc (Nat.le_refl _) o)
theorem Grew.below {k : IntKind} {e : TypeId} {B : Nat} {w w' : World} {v : Value} {xs ys : List Int} (h : Grew k e w w' v ys) (hr : Row k e B w v xs) (hB : B ≤ w.heap.size) : Below B w w' := by
  rcases h with h | ⟨b, n, S, rfl, _, hU, _⟩
  · exact h.mono hB
  · rcases hr with ⟨h, _⟩ | ⟨b', S', h, hb, _⟩
    · cases h
    · simp only [Value.slice.injEq, Option.some.injEq, Addr.mk.injEq, and_true] at h
      obtain ⟨rfl, _, _⟩ := h
      exact hU.below (Below.refl _ _) hB hb

theorem src_sl {P : Program} {tx e' : TypeId} (hk : P.underlying tx = some (.slice e')) {k : IntKind} {w : World} {v : Value} {ys : List Int} (h : Sl k w v ys) : Src P 1 tx v ys.length (ys.map (Value.int k)) w := by
  obtain ⟨a, c, rfl, hc, h⟩ := h
  have ho : ∀ u ∈ ys.map (Value.int k), u.oneCell' = true := by intro u hu; obtain ⟨x, _, rfl⟩ := List.mem_map.1 hu; rfl
  rcases h with rfl | ⟨b, off, rfl, hb, hr⟩
  · cases a with
    | none => exact Src.ofNil w hk c
    | some a => exact Src.ofSlice w hk a 0 c [] (by simp) (by simp) (by simp)
  · refine Src.ofSlice w hk _ _ _ _ (by simp) (fun j u hj => ?_) ho
    have hl : j < ys.length := by have := (List.getElem?_eq_some_iff.1 hj).1; simpa using this
    have hadd : (⟨b, off, none⟩ : Addr).add j = ⟨b, off + j, none⟩ := by simp [Addr.add]
    rw [hadd, hr j hl, ← hj]; simp [hl]

theorem run_ap {P : Program} (w : World) (t tx ty e : TypeId) (i : TypeInfo) (k : IntKind) (ht : P.underlying t = some (.slice e)) (hi : P.info? e = some i) (hz : i.zero = some (.int k 0)) (hsize : i.size = 1) (hby : 0 < i.bytes)
    {B : Nat} {v : Value} {xs : List Int} (hr : Row k e B w v xs) {x : Value} {ys : List Int} (hs : Src P 1 tx x ys.length (ys.map (Value.int k)) w)
    (hb : (xs.length + ys.length) * i.bytes ≤ 140737488355328) (hB : B ≤ w.heap.size) :
    ∃ v' w', (Builtin.append_ #[t, tx] ty #[v, x]).run P w = .ok v' w' ∧ Row k e B w' v' (xs ++ ys) ∧ Grew k e w w' v ys := by
  have hle : xs.length + ys.length ≤ 140737488355328 := Nat.le_trans (Nat.le_mul_of_pos_right _ hby) hb
  have hs1 : Src P i.size tx x ys.length (ys.map (Value.int k)) w := by rw [hsize]; exact hs
  have grown : ∀ (base : Option Addr) (old : Nat), old < xs.length + ys.length → (Builtin.firstCells i.size xs.length (.slice base xs.length old)).run P w.drew = .ok (xs.map (Value.int k)).toArray w.drew →
      ∃ v' w', (Builtin.append_ #[t, tx] ty #[.slice base xs.length old, x]).run P w = .ok v' w' ∧ Row k e B w' v' (xs ++ ys) ∧ Grew k e w w' (.slice base xs.length old) ys := by
    intro base old ho hold
    have h1 := run_append_grow_src (P := P) w t tx ty e i (.int k 0) ht hi hz base xs.length old _ hold x ys.length _ hs1 ho (by omega) (growslice_fits (by omega) hb)
    refine ⟨_, _, h1, ?_, .inl ((Below.refl _ _).drew.alloc (Nat.le_refl _) _)⟩
    have hge := grownCap_ge w (xs.length + ys.length) old e
    have hcm : grownCap w (xs.length + ys.length) old e ≤ maxLen := grownCap_le_maxLen w _ old e (by unfold maxLen; omega)
    obtain ⟨C, hC⟩ : ∃ C, grownCap w (xs.length + ys.length) old e = xs.length + ys.length + C := ⟨_, (Nat.add_sub_of_le hge).symm⟩
    rw [hC] at hcm ⊢
    have hzc : Builtin.zeroCells (Value.cells (.int k 0)) C = (List.replicate C (.int k 0)).toArray := by
      apply Array.ext'
      simp only [Builtin.zeroCells, Value.cells]
      simp
      rw [List.eq_replicate_iff]
      exact ⟨by simp, fun y hy => by obtain ⟨j, _, rfl⟩ := List.mem_map.1 hy; simp [Nat.mod_one]⟩
    refine .inr ⟨w.heap.size, xs ++ ys ++ List.replicate C 0, ?_, hB, ?_, by simp, List.take_left, by simp; omega⟩
    · simp; omega
    · unfold Arr
      rw [show xs.length + ys.length + C - (xs.length + ys.length) = C by omega, hzc]
      have := heap_alloc_new w.drew (.cells ((xs.map (Value.int k) ++ ys.map (Value.int k)).toArray ++ (List.replicate C (Value.int k 0)).toArray) e)
      simp only [List.map_append, List.map_replicate]
      rw [show (w.drew.heap.size) = w.heap.size from rfl] at this
      rw [this]; simp
  rcases hr with ⟨rfl, rfl⟩ | ⟨b, S, rfl, hBb, hA, hl, htk, hm⟩
  · by_cases h0 : ys.length = 0
    · have hy : ys = [] := List.eq_nil_of_length_eq_zero h0
      subst hy
      refine ⟨.slice none 0 0, w, ?_, .inl ⟨rfl, rfl⟩, .inl (Below.refl _ _)⟩
      have h1 := hs1.cells
      have h2 := hs1.len
      simp only [List.length_nil, List.map_nil] at h1 h2
      rcases hs1.kind with ⟨e', hk⟩ | hk
      · simp [Builtin.append_, run_underlying ht, run_underlying hk, sizeOf, typeInfo, hi, h2, h1]
      · simp [Builtin.append_, run_underlying ht, run_underlying hk, sizeOf, typeInfo, hi, h2, h1]
    · exact grown none 0 (by simp; omega) (run_firstCells_none w.drew i.size 0 0 0)
  · by_cases hroom : xs.length + ys.length ≤ S.length
    · have hst := run_storeCells_at P b (xs.length * i.size) e (ys.map (Value.int k)) 0 _ w hA (by simp [hsize]; omega) hs1.one
      simp only [Nat.add_zero] at hst
      have hrun : (Builtin.append_ #[t, tx] ty #[.slice (some ⟨b, 0, none⟩) xs.length S.length, x]).run P w = .ok (.slice (some ⟨b, 0, none⟩) (xs.length + ys.length) S.length) (w.setRow b (((S.map (Value.int k)).toArray.toList.take (xs.length * i.size)) ++ ys.map (Value.int k) ++ ((S.map (Value.int k)).toArray.toList.drop (xs.length * i.size + (ys.map (Value.int k)).length))).toArray) := by
        rcases hs1.kind with ⟨e', hk⟩ | hk <;> simp [Builtin.append_, run_underlying ht, run_underlying hk, sizeOf, typeInfo, hi, hs1.len, hroom, hs1.cells, Addr.add_lit, hst]
      have hA' : Arr k e (w.setRow b (((S.map (Value.int k)).toArray.toList.take (xs.length * i.size)) ++ ys.map (Value.int k) ++ ((S.map (Value.int k)).toArray.toList.drop (xs.length * i.size + (ys.map (Value.int k)).length))).toArray) b (S.take xs.length ++ ys ++ S.drop (xs.length + ys.length)) := by
        unfold Arr
        rw [setRow_heap w b _ _ e _ hA]
        simp [hsize, List.map_take, List.map_drop]
      have hlen : (S.take xs.length ++ ys ++ S.drop (xs.length + ys.length)).length = S.length := by simp; omega
      refine ⟨_, _, hrun, .inr ⟨b, _, ?_, hBb, hA', ?_, ?_, ?_⟩, .inr ⟨b, xs.length, S, rfl, hA, ⟨rfl, rfl, rfl, by simp [World.setRow], fun j _ hj => setRow_other w b j _ (fun e => hj (by simp [e]))⟩, hroom, hA'⟩⟩
      · rw [hlen]; simp
      · rw [hlen]; simp; omega
      · rw [htk]; exact List.take_left
      · rw [hlen]; exact hm
    · refine grown (some ⟨b, 0, none⟩) S.length (by omega) (run_firstCells_some w.drew i.size xs.length ⟨b, 0, none⟩ xs.length S.length _ (by simp [hsize]) (fun j u hj => ?_))
      have hj' : j < xs.length := by have := (List.getElem?_eq_some_iff.1 hj).1; simpa using this
      have hadd : (⟨b, 0, none⟩ : Addr).add j = ⟨b, j, none⟩ := by simp [Addr.add]; try omega
      have := hA.cell j (by omega)
      rw [hadd]
      have e1 : (w.drew).cell? ⟨b, j, none⟩ = w.cell? ⟨b, j, none⟩ := rfl
      rw [e1, this, ← hj]
      have e2 : S.getD j 0 = xs.getD j 0 := by
        have : (S.take xs.length).getD j 0 = S.getD j 0 := by simp [List.getD, hj']
        rw [← this, htk]
      rw [e2]; simp [hj']

theorem wpList_ap {P : Program} {w : World} {ops : Array Oper} {rest : List Oper} {o : Oper} {a : Act} {Q : Exit → Act → World → Prop} (hgd : o.guard = none) (s x : Operand) (t tx : TypeId)
    (ho : o.op = .call { callee := .builtin .append, args := #[s, x], argTypes := #[t, tx] }) (k : IntKind) (e : TypeId) (bytes : Nat) (ht : P.underlying t = some (.slice e))
    (hi : (P.info? e).map (fun i => (i.zero, i.size, i.bytes)) = some (some (.int k 0), 1, bytes)) (hby : 0 < bytes)
    (B : Nat) (v : Value) (xs : List Int) (hs : a.eval s = v) (hr : Row k e B w v xs) (u : Value) (ys : List Int) (hx : a.eval x = u) (hy : Src P 1 tx u ys.length (ys.map (Value.int k)) w)
    (hb : (xs.length + ys.length) * bytes ≤ 140737488355328) (hB : B ≤ w.heap.size)
    (h : ∀ v' w', Row k e B w' v' (xs ++ ys) → Grew k e w w' v ys → wpList P ops Q rest (a.put o.dst v') w') : wpList P ops Q (o :: rest) a w := by
  obtain ⟨i0, hi0, hz0, hz1, hz2⟩ := info_parts hi
  refine wpList_plain hgd fun K hK => ?_
  obtain ⟨v', w', hrun, h2, h3⟩ := run_ap (P := P) w t tx o.type e i0 k ht hi0 hz0 hz1 (by omega) hr hy (by rw [hz2]; exact hb) hB
  unfold Oper.wp execOp
  simp only [ho, resolve, invoke, builtin, Sem.run_bind, Sem.run_pure, Result.andThen_ok, List.map_toArray, List.map_cons, List.map_nil, hs, hx, hrun]
  exact hK _ _ (h v' w' h2 h3)
/-- The same, as one step of a region that draws its order. -/
theorem step_ap {P : Program} {ops : Array Oper} {o : Oper} {a : Act} {w : World} {K : Act → World → Prop} {Q : Exit → Act → World → Prop} {E : Prop} (hgd : o.guard = none) (s x : Operand) (t tx : TypeId)
    (ho : o.op = .call { callee := .builtin .append, args := #[s, x], argTypes := #[t, tx] }) (k : IntKind) (e : TypeId) (bytes : Nat) (ht : P.underlying t = some (.slice e))
    (hi : (P.info? e).map (fun i => (i.zero, i.size, i.bytes)) = some (some (.int k 0), 1, bytes)) (hby : 0 < bytes)
    (B : Nat) (v : Value) (xs : List Int) (hs : a.eval s = v) (hr : Row k e B w v xs) (u : Value) (ys : List Int) (hx : a.eval x = u) (hy : Src P 1 tx u ys.length (ys.map (Value.int k)) w)
    (hb : (xs.length + ys.length) * bytes ≤ 140737488355328) (hB : B ≤ w.heap.size)
    (h : ∀ v' w', Row k e B w' v' (xs ++ ys) → Grew k e w w' v ys → K (a.put o.dst v') w') : if Region.wanted o (yielded ops a.tmps) = true then Oper.wp P o a w K Q else E := by
  have hw : Region.wanted o (yielded ops a.tmps) = true := by simp [Region.wanted, hgd]
  rw [if_pos hw]
  obtain ⟨i0, hi0, hz0, hz1, hz2⟩ := info_parts hi
  obtain ⟨v', w', hrun, h2, h3⟩ := run_ap (P := P) w t tx o.type e i0 k ht hi0 hz0 hz1 (by omega) hr hy (by rw [hz2]; exact hb) hB
  unfold Oper.wp execOp
  simp only [ho, resolve, invoke, builtin, Sem.run_bind, Sem.run_pure, Result.andThen_ok, List.map_toArray, List.map_cons, List.map_nil, hs, hx, hrun]
  exact h v' w' h2 h3
end Go.Proofs.Ytedoghjefdkmaaa.Nt
