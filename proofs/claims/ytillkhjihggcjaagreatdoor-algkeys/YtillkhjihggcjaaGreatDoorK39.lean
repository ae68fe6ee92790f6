/-
  Der: the reference's Oid.
-/
import Derived.Test.YtillkhjihggcjaaGreatDoorK38
namespace Go.Proofs.YtillkhjihggcjaaGreatDoor
open Go.RowKit
theorem gst_pre (X : List Int) : ∀ d i, ∃ R, (gst X (i + d)).1 = (gst X i).1 ++ R
  | 0, i => ⟨[], by simp⟩
  | d + 1, i => by
    obtain ⟨R, hR⟩ := gst_pre X d i
    by_cases h : X.getD (i + d) 0 < 128
    · refine ⟨R ++ [(gst X (i + d)).2 * 128 + (X.getD (i + d) 0 % 128).toNat], ?_⟩
      rw [← Nat.add_assoc, gst_lo rfl h, hR]; simp
    · refine ⟨R, ?_⟩
      rw [← Nat.add_assoc, gst_hi rfl h]; exact hR
theorem oidT_app {A R : List Nat} (h : A ≠ []) : oidT (A ++ R) = oidT A ++ R := by
  cases A with
  | nil => exact absurd rfl h
  | cons v A => rfl
theorem long_pre {A R : List Nat} (h : oidLong A = true) : oidLong (A ++ R) = true := by
  by_cases hA : A = []
  · subst hA; simp [oidLong, oidT] at h
  · unfold oidLong at h ⊢
    rw [oidT_app hA, List.any_append, h]; rfl
theorem long_snoc {A : List Nat} (hA : A ≠ []) (v : Nat) : oidLong (A ++ [v]) = (oidLong A || decide (2147483647 < v)) := by
  unfold oidLong
  rw [oidT_app hA, List.any_append]
  simp
theorem oidS_snoc {A : List Nat} (hA : A ≠ []) (v : Nat) : oidS (A ++ [v]) = oidS A ++ (46 :: decI v) := by
  unfold oidS
  rw [oidT_app hA]
  cases A with
  | nil => exact absurd rfl hA
  | cons a A => unfold oidJ; simp
theorem long_one (v : Nat) : oidLong [v] = decide (2147483647 < v - 40 * oidX v) := by simp [oidLong, oidT]
theorem oidS_one (v : Nat) : oidS [v] = decI (oidX v) ++ (46 :: decI (v - 40 * oidX v)) := by
  unfold oidS oidT oidJ; simp
theorem arcsOk_last {X : List Int} (h : 0 < X.length) : arcsOk X = decide (X.getD (X.length - 1) 0 < 128) := by
  obtain ⟨m, hm⟩ : ∃ m, X.length = m + 1 := ⟨X.length - 1, by omega⟩
  unfold arcsOk
  rw [hm, show m + 1 - 1 = m by omega]
  obtain ⟨x, hx⟩ : ∃ x, X.getD m 0 = x := ⟨_, rfl⟩
  have hb : btw X (m + 1) = decide (x < 128) := by show decide (X.getD m 0 < 128) = _; rw [hx]
  rw [hb, hx]
  by_cases hlo : x < 128
  · rw [gst_lo hx hlo]; simp [hlo]
  · simp [hlo]
theorem oidS_len {A : List Nat} (h : oidLong A = false) : (oidS A).length ≤ 20 + 21 * A.length := by
  have hall : ∀ u ∈ oidT A, u < 18446744073709551616 := by
    intro u hu
    unfold oidLong at h
    rw [List.any_eq_false] at h
    have := h u hu
    simp at this; omega
  have h1 := oidJ_len (oidT A) hall
  have h2 : (oidT A).length = A.length := by cases A <;> rfl
  have h3 := decI_le (oidX (A.headD 0)) (by unfold oidX; omega)
  unfold oidS
  rw [List.length_append]; omega
set_option maxRecDepth 20000 in
set_option maxHeartbeats 8000000 in
theorem ROid_any {w : World} (v : Value) (X : List Int) (hX : Sl .u8 w v X) (uX : U8s X) (hl : X.length ≤ 6000) :
    Calls Tryz.prog 36 #[v] w fun e w' => (∃ s er, OidR X s er ∧ e = .returned (.tuple #[.string (strOfNums s), .int .i64 er])) ∧ Below w.heap.size w w' := by
  obtain ⟨a, c, rfl, hc, hx⟩ := hX
  by_cases hne : X = []
  · subst hne
    have HR : Hid (OidR [] [] 6) := .inl ⟨fun h => by have := h.2; simp [arcsOk, gst] at this, rfl, rfl⟩
    simp only [List.length_nil]
    go_enter Tryz.func36, Tryz.ntmps36
    go_wp2
    go_ret2
    exact ⟨⟨[], 6, HR.out, rfl⟩, Below.refl _ _⟩
  rcases hx with hx | ⟨b, off, rfl, hb, hrd⟩
  · exact absurd hx hne
  obtain ⟨n, hn⟩ : ∃ n, X.length = n := ⟨_, rfl⟩
  have hn0 : 0 < n := by rw [← hn]; exact List.length_pos_iff.2 hne
  obtain ⟨m, hm⟩ : ∃ m, m + 1 = n := ⟨n - 1, by omega⟩
  obtain ⟨xl, hxl⟩ : ∃ xl, X.getD m 0 = xl := ⟨_, rfl⟩
  have hlu := uX.at m
  rw [hxl] at hlu
  have HX : Hid (U8s X ∧ X.length = n ∧ Rd .u8 w b off X ∧ arcsOk X = decide (xl < 128)) := ⟨uX, hn, hrd, by rw [arcsOk_last (by omega), hn, show n - 1 = m by omega, hxl]⟩
  have cl : w.cell? ⟨b, off + m, none⟩ = some (.int .u8 xl) := by rw [hrd m (by omega), hxl]
  have x0 := hlu.1
  have x1 := hlu.2
  rw [hn] at hc hl ⊢
  have hmI : (n : Int) - 1 = (m : Int) := by omega
  have hmn : (m : Int) < (n : Int) := by omega
  have hnb : ((n : Int) == 0) = false := by simp; omega
  have hnI : (n : Int) ≤ 6000 := by omega
  clear hrd uX hn hxl hlu hne
  by_cases hlast : 128 ≤ xl
  · have HR : Hid (OidR X [] 6) := .inl ⟨fun h => by have := h.2; rw [HX.out.2.2.2] at this; simp at this; omega, rfl, rfl⟩
    go_enter Tryz.func36, Tryz.ntmps36
    go_wp2
    go_ret2
    exact ⟨⟨[], 6, HR.out, rfl⟩, Below.refl _ _⟩
  have HL : Hid (arcsOk X = true) := by show _ = _; rw [HX.out.2.2.2]; simp; omega
  go_enter Tryz.func36, Tryz.ntmps36
  go_wp2_with fail
  go_loopw [4] (fun iv wr => ∃ i : Nat, iv = .int .i64 i ∧ i ≤ n ∧ fine X i ∧ w = wr) (fun iv _ => n - (intOf iv).toNat)
  case atStart => exact ⟨0, rfl, by omega, fun j hj => by omega, rfl⟩
  case round =>
    obtain ⟨i, rfl, hi, hf, rfl⟩ := hrel
    have HF : Hid (fine X i) := hf
    clear hf cl
    by_cases hlt : i < n
    · have l1 : (i : Int) < (n : Int) := by omega
      obtain ⟨x, hx⟩ : ∃ x, X.getD i 0 = x := ⟨_, rfl⟩
      have cx : w.cell? ⟨b, off + i, none⟩ = some (.int .u8 x) := by rw [HX.out.2.2.1 i (by have := HX.out.2.1; omega), hx]
      have HXx : Hid (X.getD i 0 = x) := hx
      clear hx
      have ok : Hid (¬ (btw X i = true ∧ x = 128) → fine X (i + 1)) := by
        intro h j hj
        by_cases hji : j = i
        · subst hji; rw [HXx.out]; exact h
        · exact HF.out j (by omega)
      have bad : Hid (btw X i = true → x = 128 → OidR X [] 6) := fun h1 h2 => .inl ⟨fun h => h.1 i (by have := HX.out.2.1; omega) ⟨h1, by rw [HXx.out]; exact h2⟩, rfl, rfl⟩
      by_cases q1 : x = 128
      · subst q1
        by_cases q2 : i = 0
        · subst q2
          rw [Nat.add_zero] at cx
          go_wp2
          go_ret2
          exact ⟨⟨[], 6, bad.out rfl (by simp), rfl⟩, Below.refl _ _⟩
        · have q2b : ((i : Int) == 0) = false := by simpa using q2
          obtain ⟨j, hj⟩ : ∃ j, j + 1 = i := ⟨i - 1, by omega⟩
          obtain ⟨y, hy⟩ : ∃ y, X.getD j 0 = y := ⟨_, rfl⟩
          have cy : w.cell? ⟨b, off + j, none⟩ = some (.int .u8 y) := by rw [HX.out.2.2.1 j (by have := HX.out.2.1; omega), hy]
          have hjI : (i : Int) - 1 = (j : Int) := by omega
          have hjn : (j : Int) < (n : Int) := by omega
          have HY : Hid (btw X i = decide (y < 128)) := by show _ = _; rw [← hj]; show decide (X.getD j 0 < 128) = _; rw [hy]
          clear hy hj
          by_cases q3 : y < 128
          · go_wp2
            go_ret2
            exact ⟨⟨[], 6, bad.out (by rw [HY.out]; simpa using q3) (by simp), rfl⟩, Below.refl _ _⟩
          · go_wp2
            go_roundw
            case rel => exact ⟨i + 1, by go_num, by omega, ok.out (fun h => by have := h.1; rw [HY.out] at this; simp at this; omega), trivial⟩
            case measure => simp [intOf]; omega
      · have q1b : (x == 128) = false := by simpa using q1
        go_wp2
        go_roundw
        case rel => exact ⟨i + 1, by go_num, by omega, ok.out (fun h => q1 h.2), trivial⟩
        case measure => simp [intOf]; omega
    · obtain rfl : i = n := by omega
      have l1 : ¬ (i : Int) < (i : Int) := by omega
      have HG0 : Hid (fine X X.length ∧ arcsOk X = true) := ⟨by rw [HX.out.2.1]; exact HF.out, HL.out⟩
      go_wp2_with fail
      go_loopw [5, 6, 7] (fun sv vv jv wr => ∃ (j : Nat) (t : Int) (D : ByteArray) (S : List Int), sv = .string D ∧ vv = .int .i64 t ∧ jv = .int .i64 j ∧ j ≤ i ∧ D = strOfNums S ∧ ((gst X j).1 = [] ∧ S = [] ∨ (gst X j).1 ≠ [] ∧ S = oidS (gst X j).1) ∧ oidLong (gst X j).1 = false ∧ t = capN 1099511627776 (gst X j).2 ∧ Below w.heap.size w wr) (fun _ _ jv _ => i - (intOf jv).toNat)
      case atStart => exact ⟨0, 0, _, [], rfl, rfl, rfl, by omega, rfl, .inl ⟨rfl, rfl⟩, rfl, rfl, Below.refl _ _⟩
      case round =>
        obtain ⟨j, t, D, S, rfl, rfl, rfl, hj, hD, hS, hlong, ht, hB⟩ := hrel
        have t0 : 0 ≤ t := by rw [ht]; unfold capN; omega
        have t1 : t ≤ 1099511627776 := by rw [ht]; unfold capN; omega
        have H1 : Hid (D = strOfNums S ∧ ((gst X j).1 = [] ∧ S = [] ∨ (gst X j).1 ≠ [] ∧ S = oidS (gst X j).1) ∧ oidLong (gst X j).1 = false ∧ t = capN 1099511627776 (gst X j).2 ∧ Below w.heap.size w wr) := ⟨hD, hS, hlong, ht, hB⟩
        have hDs : D.size ≤ 140000 := by
          rw [hD, st_size]
          rcases hS with ⟨_, rfl⟩ | ⟨_, rfl⟩
          · simp
          · have h1 := oidS_len hlong; have := gst_len X j; omega
        clear hD hS hlong ht
        by_cases hlt : j < i
        · have l1 : (j : Int) < (i : Int) := by omega
          obtain ⟨x, hx⟩ : ∃ x, X.getD j 0 = x := ⟨_, rfl⟩
          have hxu := HX.out.1.at j
          rw [hx] at hxu
          have x0 := hxu.1
          have x1 := hxu.2
          have cx : wr.cell? ⟨b, off + j, none⟩ = some (.int .u8 x) := by rw [below_rd hB hb HX.out.2.2.1 j (by have := HX.out.2.1; omega), hx]
          obtain ⟨y, hy⟩ : ∃ y, x % 128 = y := ⟨_, rfl⟩
          obtain ⟨t2, ht2⟩ : ∃ t2, t * 128 + y = t2 := ⟨_, rfl⟩
          have y0 : 0 ≤ y := by omega
          have y1 : y ≤ 127 := by omega
          have t20 : 0 ≤ t2 := by omega
          have t21 : t2 ≤ 140737488355455 := by omega
          obtain ⟨A2, hA2⟩ : ∃ A2, (gst X j).2 * 128 + (x % 128).toNat = A2 := ⟨_, rfl⟩
          have HA2 : Hid ((t2 ≤ 1099511627776 → t2 = capN 1099511627776 A2) ∧ (¬ t2 ≤ 1099511627776 → 1099511627776 = capN 1099511627776 A2) ∧ X.getD j 0 = x ∧ (gst X j).2 * 128 + (x % 128).toNat = A2) := by
            have h1 := H1.out.2.2.2.1
            unfold capN at h1 ⊢
            refine ⟨by omega, by omega, hx, hA2⟩
          clear hx hxu hA2 hB
          obtain ⟨m2, hm2⟩ : ∃ m2, capN 1099511627776 A2 = m2 := ⟨_, rfl⟩
          have hmc : (t2 ≤ 1099511627776 ∧ t2 = m2) ∨ (¬ t2 ≤ 1099511627776 ∧ m2 = 1099511627776) := by
            by_cases h : t2 ≤ 1099511627776
            · exact .inl ⟨h, by rw [← hm2]; exact HA2.out.1 h⟩
            · exact .inr ⟨h, by rw [← hm2]; exact (HA2.out.2.1 h).symm⟩
          have HM : Hid (capN 1099511627776 A2 = m2) := hm2
          clear hm2
          by_cases hlo : x < 128
          · have HG : Hid (gst X (j + 1) = ((gst X j).1 ++ [A2], 0)) := by show _ = _; rw [gst_lo HA2.out.2.2.1 hlo, HA2.out.2.2.2]
            have HLong : Hid (oidLong ((gst X j).1 ++ [A2]) = true → OidR X [] 3) := by
              intro h
              refine .inr (.inl ⟨HG0.out, ?_, rfl, rfl⟩)
              obtain ⟨R, hR⟩ := gst_pre X (i - (j + 1)) (j + 1)
              rw [show j + 1 + (i - (j + 1)) = i by omega, HG.out] at hR
              rw [HX.out.2.1, hR]
              exact long_pre h
            have fin : Hid (∀ (P : List Int) (z : Nat) (W : World), z ≤ 2147483647 → P.length ≤ 140000 → Below w.heap.size w W → Calls Tryz.prog 63 #[.int .i64 z] W fun e w' => ∃ E, e = .returned (.string E) ∧ E = strOfNums (decI z) ∧ E.size ≤ 20 ∧ Below w.heap.size w w') := by
              intro P z W hz _ hW
              refine (Decimal_any z (by omega)).mono ?_
              rintro e w' ⟨rfl, hb'⟩
              exact ⟨_, rfl, rfl, by rw [st_size]; exact decI_le z (by omega), below_via hW hb' (Nat.le_refl _)⟩
            rcases H1.out.2.1 with ⟨hA0, hS0⟩ | ⟨hAne, hSo⟩
            · have hDe : D = ⟨#[]⟩ := by rw [H1.out.1, hS0]; rfl
              have HA0 : Hid ((gst X j).1 = []) := hA0
              rw [hA0, List.nil_append] at HLong HG
              subst hDe
              clear hDs hA0 hS0
              rcases hmc with ⟨h1, rfl⟩ | ⟨h1, rfl⟩
              · have hA2t : t2 ≤ (A2 : Int) ∧ ((A2 : Int) = t2 ∨ 1099511627776 ≤ t2) := by have := HM.out; unfold capN at this; omega
                have done : Hid (∀ (d z : Nat) (c : Int) (E : ByteArray), oidX A2 = d → A2 - 40 * d = z → z ≤ 2147483647 → (48 + (d : Int)) = c → E = strOfNums (decI z) → gst X (j + 1) = ([A2], 0) ∧ oidLong [A2] = false ∧ strOfNums [c] ++ strOfNums [46] ++ E = strOfNums (oidS [A2])) := by
                  rintro d z c E hd hz hz2 rfl rfl
                  refine ⟨HG.out, ?_, ?_⟩
                  · rw [long_one, hd, hz]; simp; omega
                  · have hd2 : d < 10 := by rw [← hd]; unfold oidX; omega
                    rw [oidS_one, hd, hz, st_app, st_app, decI_one (u := d) hd2]
                    simp
                by_cases q80 : 80 ≤ t2
                · have hX2 : oidX A2 = 2 := by unfold oidX; omega
                  obtain ⟨z, hz⟩ : ∃ z : Nat, t2 - 80 = z := ⟨(t2 - 80).toNat, by omega⟩
                  by_cases qL : 2147483647 < (z : Int)
                  · have hlg : OidR X [] 3 := HLong.out (by rw [long_one, hX2]; simp; omega)
                    have HLG : Hid (OidR X [] 3) := hlg
                    clear hlg
                    go_wp2
                    go_ret2
                    exact ⟨⟨[], 3, HLG.out, rfl⟩, H1.out.2.2.2.2⟩
                  · go_wp2_with fail
                    refine (fin.out [] z _ (by omega) (by simp) H1.out.2.2.2.2).mono ?_
                    rintro e w2 ⟨E, rfl, hE, hEs, hb2⟩
                    have HD : Hid (gst X (j + 1) = ([A2], 0) ∧ oidLong [A2] = false ∧ strOfNums [50] ++ strOfNums [46] ++ E = strOfNums (oidS [A2])) := done.out 2 z 50 E hX2 (by omega) (by omega) rfl hE
                    have HB2 : Hid (Below w.heap.size w w2) := hb2
                    clear hE hb2
                    go_wp2
                    go_roundw
                    case rel => exact ⟨j + 1, 0, _, oidS [A2], rfl, rfl, by go_num, by omega, HD.out.2.2, .inr ⟨by rw [HD.out.1]; simp, by rw [HD.out.1]⟩, by rw [HD.out.1]; exact HD.out.2.1, by rw [HD.out.1]; rfl, HB2.out⟩
                    case measure => simp [intOf]; omega
                by_cases q40 : 40 ≤ t2
                · have hX2 : oidX A2 = 1 := by unfold oidX; omega
                  obtain ⟨z, hz⟩ : ∃ z : Nat, t2 - 40 = z := ⟨(t2 - 40).toNat, by omega⟩
                  have qL : ¬ 2147483647 < (z : Int) := by omega
                  go_wp2_with fail
                  refine (fin.out [] z _ (by omega) (by simp) H1.out.2.2.2.2).mono ?_
                  rintro e w2 ⟨E, rfl, hE, hEs, hb2⟩
                  have HD : Hid (gst X (j + 1) = ([A2], 0) ∧ oidLong [A2] = false ∧ strOfNums [49] ++ strOfNums [46] ++ E = strOfNums (oidS [A2])) := done.out 1 z 49 E hX2 (by omega) (by omega) rfl hE
                  have HB2 : Hid (Below w.heap.size w w2) := hb2
                  clear hE hb2
                  go_wp2
                  go_roundw
                  case rel => exact ⟨j + 1, 0, _, oidS [A2], rfl, rfl, by go_num, by omega, HD.out.2.2, .inr ⟨by rw [HD.out.1]; simp, by rw [HD.out.1]⟩, by rw [HD.out.1]; exact HD.out.2.1, by rw [HD.out.1]; rfl, HB2.out⟩
                  case measure => simp [intOf]; omega
                · have hX2 : oidX A2 = 0 := by unfold oidX; omega
                  obtain ⟨z, hz⟩ : ∃ z : Nat, t2 = z := ⟨t2.toNat, by omega⟩
                  subst hz
                  have qL : ¬ 2147483647 < (z : Int) := by omega
                  go_wp2_with fail
                  refine (fin.out [] z _ (by omega) (by simp) H1.out.2.2.2.2).mono ?_
                  rintro e w2 ⟨E, rfl, hE, hEs, hb2⟩
                  have HD : Hid (gst X (j + 1) = ([A2], 0) ∧ oidLong [A2] = false ∧ strOfNums [48] ++ strOfNums [46] ++ E = strOfNums (oidS [A2])) := done.out 0 z 48 E hX2 (by omega) (by omega) rfl hE
                  have HB2 : Hid (Below w.heap.size w w2) := hb2
                  clear hE hb2
                  go_wp2
                  go_roundw
                  case rel => exact ⟨j + 1, 0, _, oidS [A2], rfl, rfl, by go_num, by omega, HD.out.2.2, .inr ⟨by rw [HD.out.1]; simp, by rw [HD.out.1]⟩, by rw [HD.out.1]; exact HD.out.2.1, by rw [HD.out.1]; rfl, HB2.out⟩
                  case measure => simp [intOf]; omega
              · have HLG : Hid (OidR X [] 3) := by
                  have hm := HM.out
                  unfold capN at hm
                  have hX2 : oidX A2 = 2 := by unfold oidX; omega
                  exact HLong.out (by rw [long_one, hX2]; simp; omega)
                go_wp2
                go_ret2
                exact ⟨⟨[], 3, HLG.out, rfl⟩, H1.out.2.2.2.2⟩
            · have HAn : Hid ((gst X j).1 ≠ [] ∧ S = oidS (gst X j).1) := ⟨hAne, hSo⟩
              have hSpos : 0 < D.size := by
                rw [H1.out.1, st_size, hSo]
                unfold oidS
                rw [List.length_append, decI_len, Lib.decDigits_length]
                have := Lib.nDigits_pos (oidX ((gst X j).1.headD 0)); omega
              have hDb : D.toList.isEmpty = false := by
                have h1 : S ≠ [] := by
                  intro h
                  rw [H1.out.1, h] at hSpos
                  exact absurd hSpos (by decide)
                rw [H1.out.1, Lib.toList_data, strOfNums_data]
                cases S with
                | nil => exact absurd rfl h1
                | cons _ _ => rfl
              clear hAne hSo hSpos
              rcases hmc with ⟨h1, rfl⟩ | ⟨h1, rfl⟩
              · have hA2t : t2 ≤ (A2 : Int) ∧ ((A2 : Int) = t2 ∨ 1099511627776 ≤ t2) := by have := HM.out; unfold capN at this; omega
                by_cases qL : 2147483647 < t2
                · have HLG : Hid (OidR X [] 3) := HLong.out (by rw [long_snoc HAn.out.1]; simp; right; omega)
                  go_wp2
                  go_ret2
                  exact ⟨⟨[], 3, HLG.out, rfl⟩, H1.out.2.2.2.2⟩
                · obtain ⟨z, hz⟩ : ∃ z : Nat, t2 = z := ⟨t2.toNat, by omega⟩
                  subst hz
                  have hzA : A2 = z := by omega
                  subst hzA
                  go_wp2_with fail
                  refine (fin.out [] A2 _ (by omega) (by simp) H1.out.2.2.2.2).mono ?_
                  rintro e w2 ⟨E, rfl, hE, hEs, hb2⟩
                  have HD : Hid (D ++ strOfNums [46] ++ E = strOfNums (oidS ((gst X j).1 ++ [A2])) ∧ oidLong ((gst X j).1 ++ [A2]) = false ∧ (gst X (j + 1)) = ((gst X j).1 ++ [A2], 0)) := by
                    refine ⟨?_, ?_, HG.out⟩
                    · rw [H1.out.1, hE, st_app, st_app, oidS_snoc HAn.out.1, HAn.out.2]; simp
                    · rw [long_snoc HAn.out.1, H1.out.2.2.1]; simp; omega
                  have HB2 : Hid (Below w.heap.size w w2) := hb2
                  clear hE hb2
                  go_wp2
                  go_roundw
                  case rel => exact ⟨j + 1, 0, _, oidS ((gst X j).1 ++ [A2]), rfl, rfl, by go_num, by omega, HD.out.1, .inr ⟨by rw [HD.out.2.2]; simp, by rw [HD.out.2.2]⟩, by rw [HD.out.2.2]; exact HD.out.2.1, by rw [HD.out.2.2]; rfl, HB2.out⟩
                  case measure => simp [intOf]; omega
              · have HLG : Hid (OidR X [] 3) := by
                  have hm := HM.out
                  unfold capN at hm
                  exact HLong.out (by rw [long_snoc HAn.out.1]; simp; right; omega)
                go_wp2
                go_ret2
                exact ⟨⟨[], 3, HLG.out, rfl⟩, H1.out.2.2.2.2⟩
          · have HG : Hid (gst X (j + 1) = ((gst X j).1, A2)) := by show _ = _; rw [gst_hi HA2.out.2.2.1 hlo, HA2.out.2.2.2]
            rcases hmc with ⟨h1, rfl⟩ | ⟨h1, rfl⟩
            all_goals
              go_wp2
              go_roundw
              case rel => exact ⟨j + 1, _, D, S, rfl, rfl, by go_num, by omega, H1.out.1, by rw [HG.out]; exact H1.out.2.1, by rw [HG.out]; exact H1.out.2.2.1, by rw [HG.out]; exact HM.out.symm, H1.out.2.2.2.2⟩
              case measure => simp [intOf]; omega
        · obtain rfl : j = i := by omega
          have l1 : ¬ (j : Int) < (j : Int) := by omega
          have hAne : (gst X j).1 ≠ [] := by
            have h1 := HL.out
            unfold arcsOk at h1
            rw [HX.out.2.1] at h1
            intro h
            rw [h] at h1
            simp at h1
          have HR : Hid (OidR X S 0) := by
            refine .inr (.inr ⟨HG0.out, ?_, ?_, rfl⟩)
            · rw [HX.out.2.1]; exact H1.out.2.2.1
            · rcases H1.out.2.1 with ⟨h, _⟩ | ⟨_, h⟩
              · exact absurd h hAne
              · rw [HX.out.2.1]; exact h
          clear hAne hB
          go_wp2
          go_ret2
          exact ⟨⟨S, 0, HR.out, by rw [← H1.out.1]; rfl⟩, H1.out.2.2.2.2⟩
end Go.Proofs.YtillkhjihggcjaaGreatDoor
/-
  Alg: readOid, readIdentifier.
-/
namespace Go.Proofs.YtillkhjihggcjaaGreatDoor
open Go.RowKit
set_option maxRecDepth 20000
theorem oidF_len {X : List Int} (h : X.length ≤ 6000) : (oidF X).1.length ≤ 130000 := by
  unfold oidF
  split
  · split
    · simp
    · rename_i h2
      have h3 := oidS_len (A := (gst X X.length).1) (by simpa using h2)
      have h4 := gst_len X X.length
      show (oidS (gst X X.length).1).length ≤ 130000
      omega
  · simp
def OidAns (e : Ending) : Option ByteArray → Prop
  | none => ∃ s, e = .returned (.tuple #[.string s, .bool false])
  | some S => e = .returned (.tuple #[.string S, .bool true])
set_option maxHeartbeats 1000000 in
theorem readOid_any {w : World} (x : El) (a1 : Option Addr) (n1 c1 : Nat) (a2 : Option Addr) (n2 c2 : Nat) (hD : Sl .u8 w (.slice a1 n1 c1) x.d) (uD : U8s x.d) (lD : x.d.length ≤ 6000) (hT : P10 w) :
    Calls Tryz.prog 70 #[.agg #[.int .i64 x.cl, .int .i64 x.tg, .bool x.co, .slice a1 n1 c1, .slice a2 n2 c2]] w fun e w' => OidAns e (oidO x) ∧ Below w.heap.size w w' := by
  have HP : Hid (∀ W : World, Calls Tryz.prog 71 #[.agg #[.int .i64 x.cl, .int .i64 x.tg, .bool x.co, .slice a1 n1 c1, .slice a2 n2 c2], .int .i64 6] W fun e w' => e = .returned (.bool (isP x 6)) ∧ Below W.heap.size W w') := fun W => isPlain_any x _ _ 6
  have HO : Hid (∀ W, Below w.heap.size w W → Calls Tryz.prog 93 #[.slice a1 n1 c1] W fun e w' => e = .returned (.tuple #[.string (strOfNums (oidF x.d).1), .int .i64 (oidF x.d).2]) ∧ Below W.heap.size W w') := fun W h => (Oid_any _ x.d (below_sl h hD) uD lD (hT.below h)).mono fun e w' ⟨⟨s, er, h1, h2⟩, hb⟩ => ⟨by obtain ⟨e1, e2⟩ := oidF_of h1; rw [h2, e1, e2], hb⟩
  obtain ⟨O, hO⟩ : ∃ O, oidO x = O := ⟨_, rfl⟩
  rw [hO]
  have HQ : Hid (O = if isP x 6 = true ∧ (oidF x.d).2 = 0 then some (strOfNums (oidF x.d).1) else none) := by show _ = _; rw [← hO]; rfl
  obtain ⟨cl, tg, co, D, R⟩ := x
  simp only [] at hD uD lD HP HO HQ ⊢
  obtain ⟨b, hb⟩ : ∃ b, isP ⟨cl, tg, co, D, R⟩ 6 = b := ⟨_, rfl⟩
  rw [hb] at HP HQ
  obtain ⟨S, hS⟩ : ∃ S, strOfNums (oidF D).1 = S := ⟨_, rfl⟩
  obtain ⟨er, her⟩ : ∃ er, (oidF D).2 = er := ⟨_, rfl⟩
  rw [hS, her] at HO HQ
  clear hD uD lD hT hO hb hS her
  go_enter Tryz.func70, Tryz.ntmps70
  go_wp2_with fail
  refine (HP.out _).mono ?_
  rintro e w1 ⟨rfl, hb1⟩
  have H1 : Hid (Below w.heap.size w w1 ∧ Blk 24 w1 w.heap.size [.int .i64 cl, .int .i64 tg, .bool co, .slice a1 n1 c1, .slice a2 n2 c2]) := ⟨below_via (al1 _) hb1 (Nat.le_refl _), below_blk hb1 (by simp) (Blk.new _ w _)⟩
  have q3 : w1.cell? ⟨w.heap.size, 3, none⟩ = some (.slice a1 n1 c1) := H1.out.2.cell 3
  clear hb1
  cases b with
  | false =>
    have HN : Hid (O = none) := by show _ = _; rw [HQ.out]; simp
    clear HQ HP HO q3
    go_wp2
    go_ret2
    rw [HN.out]
    exact ⟨⟨_, rfl⟩, H1.out.1⟩
  | true =>
    go_wp2_with fail
    refine (HO.out _ H1.out.1).mono ?_
    rintro e w2 ⟨rfl, hb2⟩
    have H2 : Hid (Below w.heap.size w w2) := below_via H1.out.1 hb2 (Nat.le_refl _)
    clear hb2 q3
    by_cases h0 : er = 0
    · subst h0
      have HN : Hid (O = some S) := by show _ = _; rw [HQ.out]; simp
      clear HQ HP HO
      go_wp2
      go_ret2
      rw [HN.out]
      exact ⟨rfl, H2.out⟩
    · have h00 : (er == 0) = false := by simpa using h0
      have HN : Hid (O = none) := by show _ = _; rw [HQ.out]; simp [h0]
      clear HQ HP HO h0
      go_wp2
      go_ret2
      rw [HN.out]
      exact ⟨⟨_, rfl⟩, H2.out⟩
end Go.Proofs.YtillkhjihggcjaaGreatDoor
/-
  Alg: the first of a row of elements; readIdentifier.
-/
namespace Go.Proofs.YtillkhjihggcjaaGreatDoor
open Go.RowKit
set_option maxRecDepth 20000
theorem TlvS.cons {w : World} {v : Value} {x : El} {L : List El} (h : TlvS w v (x :: L)) :
    ∃ b off c a1 n1 c1 a2 n2 c2, v = .slice (some ⟨b, off, none⟩) (L.length + 1) c ∧ L.length + 1 ≤ c ∧ b < w.heap.size ∧ w.cell? ⟨b, off, none⟩ = some (.int .i64 x.cl) ∧ w.cell? ⟨b, off + 1, none⟩ = some (.int .i64 x.tg) ∧ w.cell? ⟨b, off + 2, none⟩ = some (.bool x.co) ∧ w.cell? ⟨b, off + 3, none⟩ = some (.slice a1 n1 c1) ∧ w.cell? ⟨b, off + 4, none⟩ = some (.slice a2 n2 c2)
      ∧ Sl .u8 w (.slice a1 n1 c1) x.d ∧ Sl .u8 w (.slice a2 n2 c2) x.r ∧ TlvS w (.slice (some ⟨b, off + 5, none⟩) L.length (c - 1)) L := by
  obtain ⟨a, c, Y, rfl, hc, hY, hr, hs⟩ := h
  rcases hr with h | ⟨b, off, rfl, hb, hr⟩
  · cases h
  cases Y with
  | nil => simp at hY
  | cons y Y =>
    obtain ⟨x', d, r⟩ := y
    simp only [List.map_cons, List.cons.injEq] at hY
    obtain ⟨rfl, hY⟩ := hY
    have hd : Sl .u8 w d x'.d ∧ Sl .u8 w r x'.r := hs (x', d, r) (by simp)
    obtain ⟨a1, c1, rfl, _⟩ := id hd.1
    obtain ⟨a2, c2, rfl, _⟩ := id hd.2
    have q : ∀ q u, q < 5 → (cell5 (x', .slice a1 x'.d.length c1, .slice a2 x'.r.length c2))[q]? = some u → w.cell? ⟨b, off + q, none⟩ = some u := fun q u hq hu => by
      have := cells_at hr (i := 0) (by simp) _ rfl q hq u hu
      simpa using this
    refine ⟨b, off, c, a1, _, c1, a2, _, c2, rfl, by simpa using hc, hb, q 0 _ (by decide) rfl, q 1 _ (by decide) rfl, q 2 _ (by decide) rfl, q 3 _ (by decide) rfl, q 4 _ (by decide) rfl, hd.1, hd.2, ?_⟩
    refine ⟨_, _, Y, rfl, by simp at hc; omega, hY, ?_, fun y hy => hs y (List.mem_cons_of_mem _ hy)⟩
    refine .inr ⟨b, off + 5, rfl, hb, fun i hi => ?_⟩
    have h5 := hr (i + 5) (by simp; omega)
    rw [show off + 5 + i = off + (i + 5) by omega, h5]
    simp only [tlvCells, List.flatMap_cons]
    rw [List.getElem?_append_right (by show 5 ≤ i + 5; omega)]
    rfl
theorem TlvS.nil (w : World) (a : Option Addr) (c : Nat) : TlvS w (.slice a 0 c) [] := ⟨a, c, [], rfl, Nat.zero_le _, rfl, .inl rfl, by simp⟩
/-- What readIdentifier tells. -/
def IdAns (an : Addr) (w : World) (e : Ending) : Option (ByteArray × List El) → Prop
  | none => ∃ s, e = .returned (.tuple #[.agg #[.string ⟨#[]⟩, .slice none 0 0], flV an s])
  | some (S, rest) => ∃ a n c, e = .returned (.tuple #[.agg #[.string S, .slice a n c], .nilIface]) ∧ rest.length = n ∧ TlvS w (.slice a n c) rest
theorem Tryz.sizeId : (Tryz.prog.info? 101).map (·.size) = some 2 := by kernel_rfl
theorem str_nn {k : IntKind} {s : ByteArray} {a : Option Addr} {n c : Nat} : ∀ x ∈ [Value.string s, Value.slice a n c], ∀ m, x ≠ .int k m := by
  intro x hx m
  simp only [List.mem_cons, List.not_mem_nil, or_false] at hx
  rcases hx with rfl | rfl <;> intro h <;> cases h
theorem sl_upA {k : IntKind} {T : TypeId} {w w' : World} {b : Nat} {cs : List Value} {v : Value} {xs : List Int} (h : Sl k w v xs) (hB : Blk T w b cs) (hc : ∀ c ∈ cs, ∀ n, c ≠ .int k n) (hU : Upd w w' b) : Sl k w' v xs := by
  obtain ⟨a, c, rfl, hl, h1⟩ := h
  refine ⟨a, c, rfl, hl, ?_⟩
  by_cases h0 : xs = []
  · exact .inl h0
  rcases h1 with h1 | ⟨b', off, rfl, hb, hr⟩
  · exact absurd h1 h0
  refine .inr ⟨b', off, rfl, Nat.lt_of_lt_of_le hb hU.size, hU.rd hb hr fun he => ?_⟩
  subst he
  have h2 := hr 0 (List.length_pos_iff.2 h0)
  rw [hB.cell] at h2
  exact hc _ (List.mem_of_getElem? h2) _ rfl
/-- The result's block turned: what else there is stands. -/
theorem TlvS.upd {w w' : World} {v : Value} {L : List El} {g : Nat} {T : TypeId} {cs : List Value} (h : TlvS w v L) (hB : Blk T w g cs) (hU : Upd w w' g) (hg : ∀ b off n c, v = .slice (some ⟨b, off, none⟩) n c → b ≠ g) (hcs : ∀ x ∈ cs, ∀ m, x ≠ .int .u8 m) : TlvS w' v L := by
  obtain ⟨a, c, Y, rfl, h1, h2, h3, h4⟩ := h
  refine ⟨a, c, Y, rfl, h1, h2, ?_, fun y hy => ⟨sl_upA (h4 y hy).1 hB hcs hU, sl_upA (h4 y hy).2 hB hcs hU⟩⟩
  rcases h3 with h3 | ⟨b, off, rfl, hbl, hr⟩
  · exact .inl h3
  · exact .inr ⟨b, off, rfl, Nat.lt_of_lt_of_le hbl hU.size, fun i hi => (World.cell?_of_block (a := ⟨b, off + i, none⟩) (hU.block b hbl (by have := hg b off _ _ rfl; simp [this]))).trans (hr i hi)⟩
end Go.Proofs.YtillkhjihggcjaaGreatDoor
/-
  Alg: readIdentifier.
-/
namespace Go.Proofs.YtillkhjihggcjaaGreatDoor
open Go.RowKit
set_option maxRecDepth 20000
theorem Tlvs.blk {B : Nat} {w : World} {b off n c : Nat} {L : List El} (h : Tlvs B w (.slice (some ⟨b, off, none⟩) n c) L) : B ≤ b := by
  obtain ⟨Y, _, ⟨_, h2⟩, _⟩ := h
  rcases h2 with ⟨h2, _⟩ | ⟨b', S, c', h2, hB, _⟩
  · cases h2
  · simp only [Value.slice.injEq, Option.some.injEq, Addr.mk.injEq] at h2
    omega
theorem Tlvs.len {B : Nat} {w : World} {v : Value} {L : List El} (h : Tlvs B w v L) : ∃ a c, v = .slice a L.length c := by
  obtain ⟨Y, h1, h2, _⟩ := h
  obtain ⟨a, c, h3⟩ := h2.ne
  rw [← h1, List.length_map]
  exact ⟨a, c, h3⟩
set_option maxHeartbeats 4000000 in
theorem readId_any {w : World} {an ak : Addr} (hG : Glb w an ak) (hT : P10 w) (x : El) (a1 : Option Addr) (n1 c1 : Nat) (a2 : Option Addr) (n2 c2 : Nat) (hD : Sl .u8 w (.slice a1 n1 c1) x.d) (uD : U8s x.d) (lD : x.d.length ≤ 6000) :
    Calls Tryz.prog 46 #[.agg #[.int .i64 x.cl, .int .i64 x.tg, .bool x.co, .slice a1 n1 c1, .slice a2 n2 c2]] w fun e w' => IdAns an w' e (idS x) ∧ Below w.heap.size w w' := by
  have HR : Hid (∀ W, Below w.heap.size w W → Calls Tryz.prog 55 #[.agg #[.int .i64 x.cl, .int .i64 x.tg, .bool x.co, .slice a1 n1 c1, .slice a2 n2 c2]] W fun e w' => RowAns W.heap.size w' e (rowS x) ∧ Below W.heap.size W w') := fun W h => row_any x a1 n1 c1 _ (below_sl h hD) uD lD
  have HN : Hid (∀ W s, Below w.heap.size w W → Calls Tryz.prog 49 #[.string s] W fun e w' => e = .returned (flV an s) ∧ W = w') := fun W s h => none_any (hG.below h) s
  obtain ⟨O, hO⟩ : ∃ O, idS x = O := ⟨_, rfl⟩
  obtain ⟨RO, hRO⟩ : ∃ R, rowS x = R := ⟨_, rfl⟩
  rw [hO]
  rw [hRO] at HR
  have HQ : Hid (O = idO RO) := by show _ = _; rw [← hO, ← hRO]; rfl
  have HL : Hid (∀ L, RO = some L → ∀ y ∈ L, y.d.length ≤ 6000 ∧ U8s y.d ∧ 0 ≤ y.tg) := by
    intro L h y hy
    rw [← hRO] at h
    unfold rowS at h
    split at h
    · cases hS : splitS x.d with
      | inl pq => rw [hS] at h; cases h
      | inr L' =>
        rw [hS] at h
        obtain rfl : L' = L := Option.some.inj h
        have := splitS_good uD hS y hy
        exact ⟨by omega, this.2⟩
    · cases h
  have HT : Hid (P10 w) := hT
  obtain ⟨cl, tg, co, D, R⟩ := x
  simp only [] at hD HR ⊢
  clear hD uD lD hO hRO hG hT
  go_enter Tryz.func46, Tryz.ntmps46
  go_wp2_with fail
  refine (HR.out _ (below_via (al1 _) (al1 _) (Nat.le_refl _))).mono ?_
  rintro e w1 ⟨ha, hb⟩
  have H1 : Hid (Below w.heap.size w w1 ∧ Blk 101 w1 (w.heap.size + 1) [.string ⟨#[]⟩, .slice none 0 0]) := ⟨below_via (below_via (al1 _) (al1 _) (Nat.le_refl _)) hb (Nat.le_refl _), below_blk hb (by simp) (by
    have := Blk.new 101 (w.alloc (.cells #[.int .i64 cl, .int .i64 tg, .bool co, .slice a1 n1 c1, .slice a2 n2 c2] 24)) [.string ⟨#[]⟩, .slice none 0 0]
    rw [World.size_alloc] at this
    exact this)⟩
  have hs1 : w.heap.size + 1 < w1.heap.size := H1.out.2.lt
  have hsz : ((w.alloc (.cells #[.int .i64 cl, .int .i64 tg, .bool co, .slice a1 n1 c1, .slice a2 n2 c2] 24)).alloc (.cells #[.string ⟨#[]⟩, .slice none 0 0] 101)).heap.size = w.heap.size + 2 := by simp
  rw [hsz] at ha
  clear hb hsz HR
  have bad : Hid (∀ (W : World) (s : ByteArray), Below w.heap.size w W → Blk 101 W (w.heap.size + 1) [.string ⟨#[]⟩, .slice none 0 0] → Below w.heap.size w ((W.setCell ⟨w.heap.size + 1, 0, none⟩ (.string ⟨#[]⟩)).setCell ⟨w.heap.size + 1, 1, none⟩ (.slice none 0 0)) ∧ Blk 101 ((W.setCell ⟨w.heap.size + 1, 0, none⟩ (.string ⟨#[]⟩)).setCell ⟨w.heap.size + 1, 1, none⟩ (.slice none 0 0)) (w.heap.size + 1) [.string ⟨#[]⟩, .slice none 0 0]) := by
    intro W s hW hB
    exact ⟨((Upd.set W (w.heap.size + 1) 0 (.string ⟨#[]⟩)).trans (Upd.set _ _ 1 (.slice none 0 0))).below hW hW.size (by omega), (hB.set 0 (.string ⟨#[]⟩)).set 1 (.slice none 0 0)⟩
  have d0 : w1.cell? ⟨w.heap.size + 1, 0, none⟩ = some (.string ⟨#[]⟩) := H1.out.2.cell 0
  have d1 : w1.cell? ⟨w.heap.size + 1, 1, none⟩ = some (.slice none 0 0) := H1.out.2.cell 1
  have f0 := H1.out.2.frozen 0
  have f1 := H1.out.2.frozen 1
  cases RO with
  | none =>
    obtain ⟨a, n, c, rfl⟩ := ha
    have HO : Hid (O = none) := HQ.out
    clear HQ HL HT
    go_wp2_with (go_at_call 49; refine (HN.out _ _ H1.out.1).mono ?_; rintro e w2 ⟨rfl, rfl⟩)
    have hw := bad.out w1 ⟨#[]⟩ H1.out.1 H1.out.2
    refine bodyPost_ret (results_blk2 rfl rfl hw.2 Tryz.underlying101 rfl Tryz.sizeId rfl) rfl ⟨?_, hw.1⟩
    rw [HO.out]
    exact ⟨_, rfl⟩
  | some L =>
    obtain ⟨v, rfl, hv⟩ := ha
    obtain ⟨av, cv, rfl⟩ := hv.len
    match L, HQ, HL, hv with
    | [], HQ, HL, hv =>
      have HO : Hid (O = none) := HQ.out
      clear HQ HL HT hv
      simp only [List.length_nil]
      go_wp2_with (go_at_call 49; refine (HN.out _ _ H1.out.1).mono ?_; rintro e w2 ⟨rfl, rfl⟩)
      have hw := bad.out w1 ⟨#[]⟩ H1.out.1 H1.out.2
      refine bodyPost_ret (results_blk2 rfl rfl hw.2 Tryz.underlying101 rfl Tryz.sizeId rfl) rfl ⟨?_, hw.1⟩
      rw [HO.out]
      exact ⟨_, rfl⟩
    | y0 :: y1 :: y2 :: L, HQ, HL, hv =>
      have HO : Hid (O = none) := HQ.out
      obtain ⟨k, hk⟩ : ∃ k, (y0 :: y1 :: y2 :: L).length = k := ⟨_, rfl⟩
      rw [hk]
      have k1 : ¬ (k : Int) < 1 := by simp at hk; omega
      have k2 : (2 : Int) < (k : Int) := by simp at hk; omega
      clear HQ HL HT hv hk
      go_wp2_with (go_at_call 49; refine (HN.out _ _ H1.out.1).mono ?_; rintro e w2 ⟨rfl, rfl⟩)
      have hw := bad.out w1 ⟨#[]⟩ H1.out.1 H1.out.2
      refine bodyPost_ret (results_blk2 rfl rfl hw.2 Tryz.underlying101 rfl Tryz.sizeId rfl) rfl ⟨?_, hw.1⟩
      rw [HO.out]
      exact ⟨_, rfl⟩
    | y :: [], HQ, HL, hv =>
      have HQ' : Hid (O = idC [] (oidO y)) := HQ.out
      have hlen : Hid ([] = ([] : List El) ∨ True) := .inl rfl
      obtain ⟨rest, hrest⟩ : ∃ r : List El, r = [] := ⟨_, rfl⟩
      rw [← hrest] at HQ' hv HL ⊢
      have hr1 : rest.length ≤ 1 := by rw [hrest]; decide
      clear HQ hrest hlen
      have hy := HL.out _ rfl y (by simp)
      obtain ⟨b, off, c, b1, m1, d1', b2, m2, d2', hvv, hc, hbl, e0, e1, e2, e3, e4, sd, sr, ht⟩ := hv.r.s.cons
      have hB : w.heap.size + 2 ≤ b := by rw [hvv] at hv; exact hv.blk
      simp only [Value.slice.injEq] at hvv
      obtain ⟨rfl, hn, rfl⟩ := hvv
      obtain ⟨k, hk⟩ : ∃ k, rest.length = k := ⟨_, rfl⟩
      rw [hk] at hr1 ht hc hn
      rw [hn]
      have k1 : ¬ ((k + 1 : Nat) : Int) < 1 := by omega
      have k2 : ¬ (2 : Int) < ((k + 1 : Nat) : Int) := by omega
      have HO : Hid (∀ W, Below w1.heap.size w1 W → Calls Tryz.prog 70 #[.agg #[.int .i64 y.cl, .int .i64 y.tg, .bool y.co, .slice b1 m1 d1', .slice b2 m2 d2']] W fun e w' => OidAns e (oidO y) ∧ Below W.heap.size W w') := fun W h => readOid_any y b1 m1 d1' b2 m2 d2' (below_sl h sd) hy.2.1 hy.1 (HT.out.below (below_via H1.out.1 h (Nat.le_refl _)))
      have HK : Hid (rest.length = k ∧ w.heap.size + 2 ≤ b ∧ b < w1.heap.size ∧ TlvS w1 (.slice (some ⟨b, off + 5, none⟩) k (cv - 1)) rest) := ⟨hk, hB, hbl, ht⟩
      obtain ⟨OO, hOO⟩ : ∃ OO, oidO y = OO := ⟨_, rfl⟩
      rw [hOO] at HO HQ'
      obtain ⟨ycl, ytg, yco, yD, yR⟩ := y
      simp only [] at HO e0 e1 e2 e3 e4
      have kc : ((k + 1 : Nat) : Int) ≤ (cv : Int) := by omega
      clear hy hv hn hk hr1 ht hOO sd sr HL HT hB hbl hc
      go_wp2_with fail
      refine (HO.out _ (Below.refl _ _)).mono ?_
      rintro e w2 ⟨ho, hb2⟩
      have H2 : Hid (Below w.heap.size w w2 ∧ Blk 101 w2 (w.heap.size + 1) [.string ⟨#[]⟩, .slice none 0 0] ∧ TlvS w2 (.slice (some ⟨b, off + 5, none⟩) k (cv - 1)) rest) := ⟨below_via H1.out.1 hb2 (Nat.le_refl _), below_blk hb2 hs1 H1.out.2, HK.out.2.2.2.below hb2⟩
      have g0 : w2.cell? ⟨w.heap.size + 1, 0, none⟩ = some (.string ⟨#[]⟩) := H2.out.2.1.cell 0
      have g1 : w2.cell? ⟨w.heap.size + 1, 1, none⟩ = some (.slice none 0 0) := H2.out.2.1.cell 1
      have p0 := H2.out.2.1.frozen 0
      have p1 := H2.out.2.1.frozen 1
      clear hb2 d0 d1 f0 f1 e0 e1 e2 e3 e4 HO
      cases OO with
      | none =>
        obtain ⟨s, rfl⟩ := ho
        have HO : Hid (O = none) := HQ'.out
        clear HQ'
        go_wp2_with (go_at_call 49; refine (HN.out _ _ H2.out.1).mono ?_; rintro e w3 ⟨rfl, rfl⟩)
        have hw := bad.out w2 ⟨#[]⟩ H2.out.1 H2.out.2.1
        refine bodyPost_ret (results_blk2 rfl rfl hw.2 Tryz.underlying101 rfl Tryz.sizeId rfl) rfl ⟨?_, hw.1⟩
        rw [HO.out]
        exact ⟨_, rfl⟩
      | some S =>
        obtain rfl : e = _ := ho
        have HO : Hid (O = some (S, rest)) := HQ'.out
        clear HQ'
        by_cases hcv : cv = 1
        · subst hcv
          obtain rfl : k = 0 := by omega
          have hr0 : rest = [] := List.eq_nil_of_length_eq_zero HK.out.1
          go_wp2
          have u := (Upd.set w2 (w.heap.size + 1) 0 (.string S)).trans (Upd.set _ _ 1 (.slice (some ⟨b, off, none⟩) 0 0))
          have hB2 := (H2.out.2.1.set 0 (.string S)).set 1 (.slice (some ⟨b, off, none⟩) 0 0)
          refine bodyPost_ret (results_blk2 rfl rfl hB2 Tryz.underlying101 rfl Tryz.sizeId rfl) rfl ⟨?_, u.below H2.out.1 H2.out.1.size (by omega)⟩
          rw [HO.out]
          exact ⟨_, _, _, rfl, HK.out.1, by rw [hr0]; exact TlvS.nil _ _ _⟩
        · have hcz : ¬ cv - 1 = 0 := by omega
          go_wp2
          have u := (Upd.set w2 (w.heap.size + 1) 0 (.string S)).trans (Upd.set _ _ 1 (.slice (some ⟨b, off + 5, none⟩) k (cv - 1)))
          have hB2 := (H2.out.2.1.set 0 (.string S)).set 1 (.slice (some ⟨b, off + 5, none⟩) k (cv - 1))
          refine bodyPost_ret (results_blk2 rfl rfl hB2 Tryz.underlying101 rfl Tryz.sizeId rfl) rfl ⟨?_, u.below H2.out.1 H2.out.1.size (by omega)⟩
          rw [HO.out]
          exact ⟨_, _, _, rfl, HK.out.1, H2.out.2.2.upd H2.out.2.1 u (fun b' o' n' c' h => by simp only [Value.slice.injEq, Option.some.injEq, Addr.mk.injEq] at h; have := HK.out.2.1; omega) str_nn⟩
    | y :: z :: [], HQ, HL, hv =>
      have HQ' : Hid (O = idC [z] (oidO y)) := HQ.out
      obtain ⟨rest, hrest⟩ : ∃ r : List El, r = [z] := ⟨_, rfl⟩
      rw [← hrest] at HQ' hv HL ⊢
      have hr1 : rest.length ≤ 1 := by rw [hrest]; simp
      clear HQ hrest
      have hy := HL.out _ rfl y (by simp)
      obtain ⟨b, off, c, b1, m1, d1', b2, m2, d2', hvv, hc, hbl, e0, e1, e2, e3, e4, sd, sr, ht⟩ := hv.r.s.cons
      have hB : w.heap.size + 2 ≤ b := by rw [hvv] at hv; exact hv.blk
      simp only [Value.slice.injEq] at hvv
      obtain ⟨rfl, hn, rfl⟩ := hvv
      obtain ⟨k, hk⟩ : ∃ k, rest.length = k := ⟨_, rfl⟩
      rw [hk] at hr1 ht hc hn
      rw [hn]
      have k1 : ¬ ((k + 1 : Nat) : Int) < 1 := by omega
      have k2 : ¬ (2 : Int) < ((k + 1 : Nat) : Int) := by omega
      have HO : Hid (∀ W, Below w1.heap.size w1 W → Calls Tryz.prog 70 #[.agg #[.int .i64 y.cl, .int .i64 y.tg, .bool y.co, .slice b1 m1 d1', .slice b2 m2 d2']] W fun e w' => OidAns e (oidO y) ∧ Below W.heap.size W w') := fun W h => readOid_any y b1 m1 d1' b2 m2 d2' (below_sl h sd) hy.2.1 hy.1 (HT.out.below (below_via H1.out.1 h (Nat.le_refl _)))
      have HK : Hid (rest.length = k ∧ w.heap.size + 2 ≤ b ∧ b < w1.heap.size ∧ TlvS w1 (.slice (some ⟨b, off + 5, none⟩) k (cv - 1)) rest) := ⟨hk, hB, hbl, ht⟩
      obtain ⟨OO, hOO⟩ : ∃ OO, oidO y = OO := ⟨_, rfl⟩
      rw [hOO] at HO HQ'
      obtain ⟨ycl, ytg, yco, yD, yR⟩ := y
      simp only [] at HO e0 e1 e2 e3 e4
      have kc : ((k + 1 : Nat) : Int) ≤ (cv : Int) := by omega
      clear hy hv hn hk hr1 ht hOO sd sr HL HT hB hbl hc
      go_wp2_with fail
      refine (HO.out _ (Below.refl _ _)).mono ?_
      rintro e w2 ⟨ho, hb2⟩
      have H2 : Hid (Below w.heap.size w w2 ∧ Blk 101 w2 (w.heap.size + 1) [.string ⟨#[]⟩, .slice none 0 0] ∧ TlvS w2 (.slice (some ⟨b, off + 5, none⟩) k (cv - 1)) rest) := ⟨below_via H1.out.1 hb2 (Nat.le_refl _), below_blk hb2 hs1 H1.out.2, HK.out.2.2.2.below hb2⟩
      have g0 : w2.cell? ⟨w.heap.size + 1, 0, none⟩ = some (.string ⟨#[]⟩) := H2.out.2.1.cell 0
      have g1 : w2.cell? ⟨w.heap.size + 1, 1, none⟩ = some (.slice none 0 0) := H2.out.2.1.cell 1
      have p0 := H2.out.2.1.frozen 0
      have p1 := H2.out.2.1.frozen 1
      clear hb2 d0 d1 f0 f1 e0 e1 e2 e3 e4 HO
      cases OO with
      | none =>
        obtain ⟨s, rfl⟩ := ho
        have HO : Hid (O = none) := HQ'.out
        clear HQ'
        go_wp2_with (go_at_call 49; refine (HN.out _ _ H2.out.1).mono ?_; rintro e w3 ⟨rfl, rfl⟩)
        have hw := bad.out w2 ⟨#[]⟩ H2.out.1 H2.out.2.1
        refine bodyPost_ret (results_blk2 rfl rfl hw.2 Tryz.underlying101 rfl Tryz.sizeId rfl) rfl ⟨?_, hw.1⟩
        rw [HO.out]
        exact ⟨_, rfl⟩
      | some S =>
        obtain rfl : e = _ := ho
        have HO : Hid (O = some (S, rest)) := HQ'.out
        clear HQ'
        by_cases hcv : cv = 1
        · subst hcv
          obtain rfl : k = 0 := by omega
          have hr0 : rest = [] := List.eq_nil_of_length_eq_zero HK.out.1
          go_wp2
          have u := (Upd.set w2 (w.heap.size + 1) 0 (.string S)).trans (Upd.set _ _ 1 (.slice (some ⟨b, off, none⟩) 0 0))
          have hB2 := (H2.out.2.1.set 0 (.string S)).set 1 (.slice (some ⟨b, off, none⟩) 0 0)
          refine bodyPost_ret (results_blk2 rfl rfl hB2 Tryz.underlying101 rfl Tryz.sizeId rfl) rfl ⟨?_, u.below H2.out.1 H2.out.1.size (by omega)⟩
          rw [HO.out]
          exact ⟨_, _, _, rfl, HK.out.1, by rw [hr0]; exact TlvS.nil _ _ _⟩
        · have hcz : ¬ cv - 1 = 0 := by omega
          go_wp2
          have u := (Upd.set w2 (w.heap.size + 1) 0 (.string S)).trans (Upd.set _ _ 1 (.slice (some ⟨b, off + 5, none⟩) k (cv - 1)))
          have hB2 := (H2.out.2.1.set 0 (.string S)).set 1 (.slice (some ⟨b, off + 5, none⟩) k (cv - 1))
          refine bodyPost_ret (results_blk2 rfl rfl hB2 Tryz.underlying101 rfl Tryz.sizeId rfl) rfl ⟨?_, u.below H2.out.1 H2.out.1.size (by omega)⟩
          rw [HO.out]
          exact ⟨_, _, _, rfl, HK.out.1, H2.out.2.2.upd H2.out.2.1 u (fun b' o' n' c' h => by simp only [Value.slice.injEq, Option.some.injEq, Addr.mk.injEq] at h; have := HK.out.2.1; omega) str_nn⟩
end Go.Proofs.YtillkhjihggcjaaGreatDoor
