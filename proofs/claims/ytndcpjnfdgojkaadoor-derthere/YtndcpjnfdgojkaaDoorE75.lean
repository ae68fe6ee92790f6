/-
  Der: the reference's Oid.
-/
import Derived.Test.YtndcpjnfdgojkaaDoorE74
namespace Go.Proofs.YtndcpjnfdgojkaaDoor
open Go.RowKit
theorem gst_pre (X : List Int) : ∀ d i, ∃ R, (gst X (i + d)).1 = (gst X i).1 ++ R
  | 0, i => ⟨[], by simp⟩
  | d + 1, i => by
    obtain ⟨R, hR⟩ := gst_pre X d i
    by_cases h : X.getD (i + d) 0 < 128
    · refine ⟨R ++ [(gst X (i + d)).2 * 128 + (X.getD (i + d) 0 % 128).toNat], ?_⟩
      rw [← Nat.add_assoc, gst_lo rfl h, hR]; simp
    · refine ⟨R, ?_⟩
      rw [← Nat.add_assoc, gst_hi rfl h]; exact hR
theorem oidT_app {A R : List Nat} (h : A ≠ []) : oidT (A ++ R) = oidT A ++ R := by
  cases A with
  | nil => exact absurd rfl h
  | cons v A => rfl
theorem long_pre {A R : List Nat} (h : oidLong A = true) : oidLong (A ++ R) = true := by
  by_cases hA : A = []
  · subst hA; simp [oidLong, oidT] at h
  · unfold oidLong at h ⊢
    rw [oidT_app hA, List.any_append, h]; rfl
theorem long_snoc {A : List Nat} (hA : A ≠ []) (v : Nat) : oidLong (A ++ [v]) = (oidLong A || decide (2147483647 < v)) := by
  unfold oidLong
  rw [oidT_app hA, List.any_append]
  simp
theorem oidS_snoc {A : List Nat} (hA : A ≠ []) (v : Nat) : oidS (A ++ [v]) = oidS A ++ (46 :: decI v) := by
  unfold oidS
  rw [oidT_app hA]
  cases A with
  | nil => exact absurd rfl hA
  | cons a A => unfold oidJ; simp
theorem long_one (v : Nat) : oidLong [v] = decide (2147483647 < v - 40 * oidX v) := by simp [oidLong, oidT]
theorem oidS_one (v : Nat) : oidS [v] = decI (oidX v) ++ (46 :: decI (v - 40 * oidX v)) := by
  unfold oidS oidT oidJ; simp
theorem arcsOk_last {X : List Int} (h : 0 < X.length) : arcsOk X = decide (X.getD (X.length - 1) 0 < 128) := by
  obtain ⟨m, hm⟩ : ∃ m, X.length = m + 1 := ⟨X.length - 1, by omega⟩
  unfold arcsOk
  rw [hm, show m + 1 - 1 = m by omega]
  obtain ⟨x, hx⟩ : ∃ x, X.getD m 0 = x := ⟨_, rfl⟩
  have hb : btw X (m + 1) = decide (x < 128) := by show decide (X.getD m 0 < 128) = _; rw [hx]
  rw [hb, hx]
  by_cases hlo : x < 128
  · rw [gst_lo hx hlo]; simp [hlo]
  · simp [hlo]
theorem oidS_len {A : List Nat} (h : oidLong A = false) : (oidS A).length ≤ 20 + 21 * A.length := by
  have hall : ∀ u ∈ oidT A, u < 18446744073709551616 := by
    intro u hu
    unfold oidLong at h
    rw [List.any_eq_false] at h
    have := h u hu
    simp at this; omega
  have h1 := oidJ_len (oidT A) hall
  have h2 : (oidT A).length = A.length := by cases A <;> rfl
  have h3 := decI_le (oidX (A.headD 0)) (by unfold oidX; omega)
  unfold oidS
  rw [List.length_append]; omega
set_option maxRecDepth 20000 in
set_option maxHeartbeats 8000000 in
theorem ROid_any {w : World} (v : Value) (X : List Int) (hX : Sl .u8 w v X) (uX : U8s X) (hl : X.length ≤ 2000) :
    Calls Tryd.prog 30 #[v] w fun e w' => (∃ s er, OidR X s er ∧ e = .returned (.tuple #[.string (strOfNums s), .int .i64 er])) ∧ Below w.heap.size w w' := by
  obtain ⟨a, c, rfl, hc, hx⟩ := hX
  by_cases hne : X = []
  · subst hne
    have HR : Hid (OidR [] [] 6) := .inl ⟨fun h => by have := h.2; simp [arcsOk, gst] at this, rfl, rfl⟩
    simp only [List.length_nil]
    go_enter Tryd.func30, Tryd.ntmps30
    go_wp2
    go_ret2
    exact ⟨⟨[], 6, HR.out, rfl⟩, Below.refl _ _⟩
  rcases hx with hx | ⟨b, off, rfl, hb, hrd⟩
  · exact absurd hx hne
  obtain ⟨n, hn⟩ : ∃ n, X.length = n := ⟨_, rfl⟩
  have hn0 : 0 < n := by rw [← hn]; exact List.length_pos_iff.2 hne
  obtain ⟨m, hm⟩ : ∃ m, m + 1 = n := ⟨n - 1, by omega⟩
  obtain ⟨xl, hxl⟩ : ∃ xl, X.getD m 0 = xl := ⟨_, rfl⟩
  have hlu := uX.at m
  rw [hxl] at hlu
  have HX : Hid (U8s X ∧ X.length = n ∧ Rd .u8 w b off X ∧ arcsOk X = decide (xl < 128)) := ⟨uX, hn, hrd, by rw [arcsOk_last (by omega), hn, show n - 1 = m by omega, hxl]⟩
  have cl : w.cell? ⟨b, off + m, none⟩ = some (.int .u8 xl) := by rw [hrd m (by omega), hxl]
  have x0 := hlu.1
  have x1 := hlu.2
  rw [hn] at hc hl ⊢
  have hmI : (n : Int) - 1 = (m : Int) := by omega
  have hmn : (m : Int) < (n : Int) := by omega
  have hnb : ((n : Int) == 0) = false := by simp; omega
  have hnI : (n : Int) ≤ 2000 := by omega
  clear hrd uX hn hxl hlu hne
  by_cases hlast : 128 ≤ xl
  · have HR : Hid (OidR X [] 6) := .inl ⟨fun h => by have := h.2; rw [HX.out.2.2.2] at this; simp at this; omega, rfl, rfl⟩
    go_enter Tryd.func30, Tryd.ntmps30
    go_wp2
    go_ret2
    exact ⟨⟨[], 6, HR.out, rfl⟩, Below.refl _ _⟩
  have HL : Hid (arcsOk X = true) := by show _ = _; rw [HX.out.2.2.2]; simp; omega
  go_enter Tryd.func30, Tryd.ntmps30
  go_wp2_with fail
  go_loopw [4] (fun iv wr => ∃ i : Nat, iv = .int .i64 i ∧ i ≤ n ∧ fine X i ∧ w = wr) (fun iv _ => n - (intOf iv).toNat)
  case atStart => exact ⟨0, rfl, by omega, fun j hj => by omega, rfl⟩
  case round =>
    obtain ⟨i, rfl, hi, hf, rfl⟩ := hrel
    have HF : Hid (fine X i) := hf
    clear hf cl
    by_cases hlt : i < n
    · have l1 : (i : Int) < (n : Int) := by omega
      obtain ⟨x, hx⟩ : ∃ x, X.getD i 0 = x := ⟨_, rfl⟩
      have cx : w.cell? ⟨b, off + i, none⟩ = some (.int .u8 x) := by rw [HX.out.2.2.1 i (by have := HX.out.2.1; omega), hx]
      have HXx : Hid (X.getD i 0 = x) := hx
      clear hx
      have ok : Hid (¬ (btw X i = true ∧ x = 128) → fine X (i + 1)) := by
        intro h j hj
        by_cases hji : j = i
        · subst hji; rw [HXx.out]; exact h
        · exact HF.out j (by omega)
      have bad : Hid (btw X i = true → x = 128 → OidR X [] 6) := fun h1 h2 => .inl ⟨fun h => h.1 i (by have := HX.out.2.1; omega) ⟨h1, by rw [HXx.out]; exact h2⟩, rfl, rfl⟩
      by_cases q1 : x = 128
      · subst q1
        by_cases q2 : i = 0
        · subst q2
          rw [Nat.add_zero] at cx
          go_wp2
          go_ret2
          exact ⟨⟨[], 6, bad.out rfl (by simp), rfl⟩, Below.refl _ _⟩
        · have q2b : ((i : Int) == 0) = false := by simpa using q2
          obtain ⟨j, hj⟩ : ∃ j, j + 1 = i := ⟨i - 1, by omega⟩
          obtain ⟨y, hy⟩ : ∃ y, X.getD j 0 = y := ⟨_, rfl⟩
          have cy : w.cell? ⟨b, off + j, none⟩ = some (.int .u8 y) := by rw [HX.out.2.2.1 j (by have := HX.out.2.1; omega), hy]
          have hjI : (i : Int) - 1 = (j : Int) := by omega
          have hjn : (j : Int) < (n : Int) := by omega
          have HY : Hid (btw X i = decide (y < 128)) := by show _ = _; rw [← hj]; show decide (X.getD j 0 < 128) = _; rw [hy]
          clear hy hj
          by_cases q3 : y < 128
          · go_wp2
            go_ret2
            exact ⟨⟨[], 6, bad.out (by rw [HY.out]; simpa using q3) (by simp), rfl⟩, Below.refl _ _⟩
          · go_wp2
            go_roundw
            case rel => exact ⟨i + 1, by go_num, by omega, ok.out (fun h => by have := h.1; rw [HY.out] at this; simp at this; omega), trivial⟩
            case measure => simp [intOf]; omega
      · have q1b : (x == 128) = false := by simpa using q1
        go_wp2
        go_roundw
        case rel => exact ⟨i + 1, by go_num, by omega, ok.out (fun h => q1 h.2), trivial⟩
        case measure => simp [intOf]; omega
    · obtain rfl : i = n := by omega
      have l1 : ¬ (i : Int) < (i : Int) := by omega
      have HG0 : Hid (fine X X.length ∧ arcsOk X = true) := ⟨by rw [HX.out.2.1]; exact HF.out, HL.out⟩
      go_wp2_with fail
      go_loopw [5, 6, 7] (fun sv vv jv wr => ∃ (j : Nat) (t : Int) (D : ByteArray) (S : List Int), sv = .string D ∧ vv = .int .i64 t ∧ jv = .int .i64 j ∧ j ≤ i ∧ D = strOfNums S ∧ ((gst X j).1 = [] ∧ S = [] ∨ (gst X j).1 ≠ [] ∧ S = oidS (gst X j).1) ∧ oidLong (gst X j).1 = false ∧ t = capN 1099511627776 (gst X j).2 ∧ Below w.heap.size w wr) (fun _ _ jv _ => i - (intOf jv).toNat)
      case atStart => exact ⟨0, 0, _, [], rfl, rfl, rfl, by omega, rfl, .inl ⟨rfl, rfl⟩, rfl, rfl, Below.refl _ _⟩
      case round =>
        obtain ⟨j, t, D, S, rfl, rfl, rfl, hj, hD, hS, hlong, ht, hB⟩ := hrel
        have t0 : 0 ≤ t := by rw [ht]; unfold capN; omega
        have t1 : t ≤ 1099511627776 := by rw [ht]; unfold capN; omega
        have H1 : Hid (D = strOfNums S ∧ ((gst X j).1 = [] ∧ S = [] ∨ (gst X j).1 ≠ [] ∧ S = oidS (gst X j).1) ∧ oidLong (gst X j).1 = false ∧ t = capN 1099511627776 (gst X j).2 ∧ Below w.heap.size w wr) := ⟨hD, hS, hlong, ht, hB⟩
        have hDs : D.size ≤ 60000 := by
          rw [hD, st_size]
          rcases hS with ⟨_, rfl⟩ | ⟨_, rfl⟩
          · simp
          · have h1 := oidS_len hlong; have := gst_len X j; omega
        clear hD hS hlong ht
        by_cases hlt : j < i
        · have l1 : (j : Int) < (i : Int) := by omega
          obtain ⟨x, hx⟩ : ∃ x, X.getD j 0 = x := ⟨_, rfl⟩
          have hxu := HX.out.1.at j
          rw [hx] at hxu
          have x0 := hxu.1
          have x1 := hxu.2
          have cx : wr.cell? ⟨b, off + j, none⟩ = some (.int .u8 x) := by rw [below_rd hB hb HX.out.2.2.1 j (by have := HX.out.2.1; omega), hx]
          obtain ⟨y, hy⟩ : ∃ y, x % 128 = y := ⟨_, rfl⟩
          obtain ⟨t2, ht2⟩ : ∃ t2, t * 128 + y = t2 := ⟨_, rfl⟩
          have y0 : 0 ≤ y := by omega
          have y1 : y ≤ 127 := by omega
          have t20 : 0 ≤ t2 := by omega
          have t21 : t2 ≤ 140737488355455 := by omega
          obtain ⟨A2, hA2⟩ : ∃ A2, (gst X j).2 * 128 + (x % 128).toNat = A2 := ⟨_, rfl⟩
          have HA2 : Hid ((t2 ≤ 1099511627776 → t2 = capN 1099511627776 A2) ∧ (¬ t2 ≤ 1099511627776 → 1099511627776 = capN 1099511627776 A2) ∧ X.getD j 0 = x ∧ (gst X j).2 * 128 + (x % 128).toNat = A2) := by
            have h1 := H1.out.2.2.2.1
            unfold capN at h1 ⊢
            refine ⟨by omega, by omega, hx, hA2⟩
          clear hx hxu hA2 hB
          obtain ⟨m2, hm2⟩ : ∃ m2, capN 1099511627776 A2 = m2 := ⟨_, rfl⟩
          have hmc : (t2 ≤ 1099511627776 ∧ t2 = m2) ∨ (¬ t2 ≤ 1099511627776 ∧ m2 = 1099511627776) := by
            by_cases h : t2 ≤ 1099511627776
            · exact .inl ⟨h, by rw [← hm2]; exact HA2.out.1 h⟩
            · exact .inr ⟨h, by rw [← hm2]; exact (HA2.out.2.1 h).symm⟩
          have HM : Hid (capN 1099511627776 A2 = m2) := hm2
          clear hm2
          by_cases hlo : x < 128
          · have HG : Hid (gst X (j + 1) = ((gst X j).1 ++ [A2], 0)) := by show _ = _; rw [gst_lo HA2.out.2.2.1 hlo, HA2.out.2.2.2]
            have HLong : Hid (oidLong ((gst X j).1 ++ [A2]) = true → OidR X [] 3) := by
              intro h
              refine .inr (.inl ⟨HG0.out, ?_, rfl, rfl⟩)
              obtain ⟨R, hR⟩ := gst_pre X (i - (j + 1)) (j + 1)
              rw [show j + 1 + (i - (j + 1)) = i by omega, HG.out] at hR
              rw [HX.out.2.1, hR]
              exact long_pre h
            have fin : Hid (∀ (P : List Int) (z : Nat) (W : World), z ≤ 2147483647 → P.length ≤ 60000 → Below w.heap.size w W → Calls Tryd.prog 47 #[.int .i64 z] W fun e w' => ∃ E, e = .returned (.string E) ∧ E = strOfNums (decI z) ∧ E.size ≤ 20 ∧ Below w.heap.size w w') := by
              intro P z W hz _ hW
              refine (Decimal_any z (by omega)).mono ?_
              rintro e w' ⟨rfl, hb'⟩
              exact ⟨_, rfl, rfl, by rw [st_size]; exact decI_le z (by omega), below_via hW hb' (Nat.le_refl _)⟩
            rcases H1.out.2.1 with ⟨hA0, hS0⟩ | ⟨hAne, hSo⟩
            · have hDe : D = ⟨#[]⟩ := by rw [H1.out.1, hS0]; rfl
              have HA0 : Hid ((gst X j).1 = []) := hA0
              rw [hA0, List.nil_append] at HLong HG
              subst hDe
              clear hDs hA0 hS0
              rcases hmc with ⟨h1, rfl⟩ | ⟨h1, rfl⟩
              · have hA2t : t2 ≤ (A2 : Int) ∧ ((A2 : Int) = t2 ∨ 1099511627776 ≤ t2) := by have := HM.out; unfold capN at this; omega
                have done : Hid (∀ (d z : Nat) (c : Int) (E : ByteArray), oidX A2 = d → A2 - 40 * d = z → z ≤ 2147483647 → (48 + (d : Int)) = c → E = strOfNums (decI z) → gst X (j + 1) = ([A2], 0) ∧ oidLong [A2] = false ∧ strOfNums [c] ++ strOfNums [46] ++ E = strOfNums (oidS [A2])) := by
                  rintro d z c E hd hz hz2 rfl rfl
                  refine ⟨HG.out, ?_, ?_⟩
                  · rw [long_one, hd, hz]; simp; omega
                  · have hd2 : d < 10 := by rw [← hd]; unfold oidX; omega
                    rw [oidS_one, hd, hz, st_app, st_app, decI_one (u := d) hd2]
                    simp
                by_cases q80 : 80 ≤ t2
                · have hX2 : oidX A2 = 2 := by unfold oidX; omega
                  obtain ⟨z, hz⟩ : ∃ z : Nat, t2 - 80 = z := ⟨(t2 - 80).toNat, by omega⟩
                  by_cases qL : 2147483647 < (z : Int)
                  · have hlg : OidR X [] 3 := HLong.out (by rw [long_one, hX2]; simp; omega)
                    have HLG : Hid (OidR X [] 3) := hlg
                    clear hlg
                    go_wp2
                    go_ret2
                    exact ⟨⟨[], 3, HLG.out, rfl⟩, H1.out.2.2.2.2⟩
                  · go_wp2_with fail
                    refine (fin.out [] z _ (by omega) (by simp) H1.out.2.2.2.2).mono ?_
                    rintro e w2 ⟨E, rfl, hE, hEs, hb2⟩
                    have HD : Hid (gst X (j + 1) = ([A2], 0) ∧ oidLong [A2] = false ∧ strOfNums [50] ++ strOfNums [46] ++ E = strOfNums (oidS [A2])) := done.out 2 z 50 E hX2 (by omega) (by omega) rfl hE
                    have HB2 : Hid (Below w.heap.size w w2) := hb2
                    clear hE hb2
                    go_wp2
                    go_roundw
                    case rel => exact ⟨j + 1, 0, _, oidS [A2], rfl, rfl, by go_num, by omega, HD.out.2.2, .inr ⟨by rw [HD.out.1]; simp, by rw [HD.out.1]⟩, by rw [HD.out.1]; exact HD.out.2.1, by rw [HD.out.1]; rfl, HB2.out⟩
                    case measure => simp [intOf]; omega
                by_cases q40 : 40 ≤ t2
                · have hX2 : oidX A2 = 1 := by unfold oidX; omega
                  obtain ⟨z, hz⟩ : ∃ z : Nat, t2 - 40 = z := ⟨(t2 - 40).toNat, by omega⟩
                  have qL : ¬ 2147483647 < (z : Int) := by omega
                  go_wp2_with fail
                  refine (fin.out [] z _ (by omega) (by simp) H1.out.2.2.2.2).mono ?_
                  rintro e w2 ⟨E, rfl, hE, hEs, hb2⟩
                  have HD : Hid (gst X (j + 1) = ([A2], 0) ∧ oidLong [A2] = false ∧ strOfNums [49] ++ strOfNums [46] ++ E = strOfNums (oidS [A2])) := done.out 1 z 49 E hX2 (by omega) (by omega) rfl hE
                  have HB2 : Hid (Below w.heap.size w w2) := hb2
                  clear hE hb2
                  go_wp2
                  go_roundw
                  case rel => exact ⟨j + 1, 0, _, oidS [A2], rfl, rfl, by go_num, by omega, HD.out.2.2, .inr ⟨by rw [HD.out.1]; simp, by rw [HD.out.1]⟩, by rw [HD.out.1]; exact HD.out.2.1, by rw [HD.out.1]; rfl, HB2.out⟩
                  case measure => simp [intOf]; omega
                · have hX2 : oidX A2 = 0 := by unfold oidX; omega
                  obtain ⟨z, hz⟩ : ∃ z : Nat, t2 = z := ⟨t2.toNat, by omega⟩
                  subst hz
                  have qL : ¬ 2147483647 < (z : Int) := by omega
                  go_wp2_with fail
                  refine (fin.out [] z _ (by omega) (by simp) H1.out.2.2.2.2).mono ?_
                  rintro e w2 ⟨E, rfl, hE, hEs, hb2⟩
                  have HD : Hid (gst X (j + 1) = ([A2], 0) ∧ oidLong [A2] = false ∧ strOfNums [48] ++ strOfNums [46] ++ E = strOfNums (oidS [A2])) := done.out 0 z 48 E hX2 (by omega) (by omega) rfl hE
                  have HB2 : Hid (Below w.heap.size w w2) := hb2
                  clear hE hb2
                  go_wp2
                  go_roundw
                  case rel => exact ⟨j + 1, 0, _, oidS [A2], rfl, rfl, by go_num, by omega, HD.out.2.2, .inr ⟨by rw [HD.out.1]; simp, by rw [HD.out.1]⟩, by rw [HD.out.1]; exact HD.out.2.1, by rw [HD.out.1]; rfl, HB2.out⟩
                  case measure => simp [intOf]; omega
              · have HLG : Hid (OidR X [] 3) := by
                  have hm := HM.out
                  unfold capN at hm
                  have hX2 : oidX A2 = 2 := by unfold oidX; omega
                  exact HLong.out (by rw [long_one, hX2]; simp; omega)
                go_wp2
                go_ret2
                exact ⟨⟨[], 3, HLG.out, rfl⟩, H1.out.2.2.2.2⟩
            · have HAn : Hid ((gst X j).1 ≠ [] ∧ S = oidS (gst X j).1) := ⟨hAne, hSo⟩
              have hSpos : 0 < D.size := by
                rw [H1.out.1, st_size, hSo]
                unfold oidS
                rw [List.length_append, decI_len, Lib.decDigits_length]
                have := Lib.nDigits_pos (oidX ((gst X j).1.headD 0)); omega
              have hDb : D.toList.isEmpty = false := by
                have h1 : S ≠ [] := by
                  intro h
                  rw [H1.out.1, h] at hSpos
                  exact absurd hSpos (by decide)
                rw [H1.out.1, Lib.toList_data, strOfNums_data]
                cases S with
                | nil => exact absurd rfl h1
                | cons _ _ => rfl
              clear hAne hSo hSpos
              rcases hmc with ⟨h1, rfl⟩ | ⟨h1, rfl⟩
              · have hA2t : t2 ≤ (A2 : Int) ∧ ((A2 : Int) = t2 ∨ 1099511627776 ≤ t2) := by have := HM.out; unfold capN at this; omega
                by_cases qL : 2147483647 < t2
                · have HLG : Hid (OidR X [] 3) := HLong.out (by rw [long_snoc HAn.out.1]; simp; right; omega)
                  go_wp2
                  go_ret2
                  exact ⟨⟨[], 3, HLG.out, rfl⟩, H1.out.2.2.2.2⟩
                · obtain ⟨z, hz⟩ : ∃ z : Nat, t2 = z := ⟨t2.toNat, by omega⟩
                  subst hz
                  have hzA : A2 = z := by omega
                  subst hzA
                  go_wp2_with fail
                  refine (fin.out [] A2 _ (by omega) (by simp) H1.out.2.2.2.2).mono ?_
                  rintro e w2 ⟨E, rfl, hE, hEs, hb2⟩
                  have HD : Hid (D ++ strOfNums [46] ++ E = strOfNums (oidS ((gst X j).1 ++ [A2])) ∧ oidLong ((gst X j).1 ++ [A2]) = false ∧ (gst X (j + 1)) = ((gst X j).1 ++ [A2], 0)) := by
                    refine ⟨?_, ?_, HG.out⟩
                    · rw [H1.out.1, hE, st_app, st_app, oidS_snoc HAn.out.1, HAn.out.2]; simp
                    · rw [long_snoc HAn.out.1, H1.out.2.2.1]; simp; omega
                  have HB2 : Hid (Below w.heap.size w w2) := hb2
                  clear hE hb2
                  go_wp2
                  go_roundw
                  case rel => exact ⟨j + 1, 0, _, oidS ((gst X j).1 ++ [A2]), rfl, rfl, by go_num, by omega, HD.out.1, .inr ⟨by rw [HD.out.2.2]; simp, by rw [HD.out.2.2]⟩, by rw [HD.out.2.2]; exact HD.out.2.1, by rw [HD.out.2.2]; rfl, HB2.out⟩
                  case measure => simp [intOf]; omega
              · have HLG : Hid (OidR X [] 3) := by
                  have hm := HM.out
                  unfold capN at hm
                  exact HLong.out (by rw [long_snoc HAn.out.1]; simp; right; omega)
                go_wp2
                go_ret2
                exact ⟨⟨[], 3, HLG.out, rfl⟩, H1.out.2.2.2.2⟩
          · have HG : Hid (gst X (j + 1) = ((gst X j).1, A2)) := by show _ = _; rw [gst_hi HA2.out.2.2.1 hlo, HA2.out.2.2.2]
            rcases hmc with ⟨h1, rfl⟩ | ⟨h1, rfl⟩
            all_goals
              go_wp2
              go_roundw
              case rel => exact ⟨j + 1, _, D, S, rfl, rfl, by go_num, by omega, H1.out.1, by rw [HG.out]; exact H1.out.2.1, by rw [HG.out]; exact H1.out.2.2.1, by rw [HG.out]; exact HM.out.symm, H1.out.2.2.2.2⟩
              case measure => simp [intOf]; omega
        · obtain rfl : j = i := by omega
          have l1 : ¬ (j : Int) < (j : Int) := by omega
          have hAne : (gst X j).1 ≠ [] := by
            have h1 := HL.out
            unfold arcsOk at h1
            rw [HX.out.2.1] at h1
            intro h
            rw [h] at h1
            simp at h1
          have HR : Hid (OidR X S 0) := by
            refine .inr (.inr ⟨HG0.out, ?_, ?_, rfl⟩)
            · rw [HX.out.2.1]; exact H1.out.2.2.1
            · rcases H1.out.2.1 with ⟨h, _⟩ | ⟨_, h⟩
              · exact absurd h hAne
              · rw [HX.out.2.1]; exact h
          clear hAne hB
          go_wp2
          go_ret2
          exact ⟨⟨S, 0, HR.out, by rw [← H1.out.1]; rfl⟩, H1.out.2.2.2.2⟩
end Go.Proofs.YtndcpjnfdgojkaaDoor
