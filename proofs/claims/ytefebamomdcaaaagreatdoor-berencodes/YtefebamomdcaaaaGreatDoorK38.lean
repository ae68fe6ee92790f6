/-
  The reference's Encode, and the law BerEncodes: any row of elements laid in the shortest way, or that it is no tree; the row stays.
-/
import Derived.Test.YtefebamomdcaaaaGreatDoorK37
namespace Go.Proofs.YtefebamomdcaaaaGreatDoor
open Go.RowKit
theorem root_end {L : List Te} (h : treeB L = true) : endF L 0 = L.length := by
  have h1 := tree_restB h
  have hpos : 0 < L.length := by
    cases L with
    | nil => exact absurd rfl h1.1
    | cons x r => simp
  have h0 : (L.getD 0 nE).dp = 0 := by
    cases L with
    | nil => simp at hpos
    | cons x r =>
      simp only [treeB, Bool.and_eq_true, decide_eq_true_eq] at h
      simpa using h.1.1.2
  refine isEnd.uniq (endF_is hpos) ⟨hpos, Nat.le_refl _, fun j a b => ?_, .inl rfl⟩
  obtain ⟨q, rfl⟩ : ∃ q, j = q + 1 := ⟨j - 1, by omega⟩
  have := h1.2.2.2 q b
  unfold folB at this
  simp only [decide_eq_true_eq] at this
  omega
theorem laid_all {L : List Te} (h : treeB L = true) : sl L 0 (endF L 0) = nds L := by
  rw [root_end h]
  unfold sl
  rw [List.drop_zero, Nat.sub_zero]
  exact List.take_of_length_le (by rw [nds_len]; exact Nat.le_refl _)
set_option maxRecDepth 20000 in
set_option maxHeartbeats 8000000 in
theorem REncode_any {w : World} (v : Value) (L : List Te) (hv : ElS w v L) (hb : datL L + 12 * L.length ≤ 16777216) :
    Calls Tryz.prog 19 #[v] w fun e w' => EnOut w.heap.size w' e (encS L) ∧ Below w.heap.size w w' := by
  obtain ⟨n, hnn⟩ : ∃ n, L.length = n := ⟨_, rfl⟩
  have HX : Hid (ElS w v L ∧ L.length = n ∧ datL L + 12 * L.length ≤ 16777216 ∧ ∀ x ∈ L, x.d.length ≤ 16777216) := ⟨hv, hnn, hb, fun x hx => by have := datL_mem hx; omega⟩
  obtain ⟨a, c, rfl⟩ : ∃ a c, v = .slice a n c := by obtain ⟨a, c, Y, h, _⟩ := hv; exact ⟨a, c, by rw [h, hnn]⟩
  have hnM : n ≤ 1398101 := by omega
  have HTC : Hid (Calls Tryz.prog 37 #[.slice a n c] w fun e w' => e = .returned (.bool (treeB L)) ∧ Below w.heap.size w w') := RTree_any _ L hv (by omega) (fun x hx => by have := datL_mem hx; omega)
  clear hv hnn hb
  obtain ⟨T, hT⟩ : ∃ T, treeB L = T := ⟨_, rfl⟩
  have HT : Hid (treeB L = T) := hT
  cases T with
  | false =>
    have HE : Hid (encS L = .inl 35) := by show _ = _; unfold encS; rw [hT]; rfl
    clear hT
    go_enter Tryz.func19, Tryz.ntmps19
    go_wp2_with fail
    refine HTC.out.mono ?_
    rw [HT.out]
    rintro e w1 ⟨rfl, hb1⟩
    go_wp2
    go_ret2
    rw [HE.out]
    exact ⟨rfl, hb1⟩
  | true =>
    have h2 := tree_restB hT
    have hby : byt (nds L) ≤ 16777216 := by
      have := byt_nds L (fun x hx => by
        obtain ⟨j, hj, rfl⟩ := List.getElem_of_mem hx
        have := h2.2.2.1 j hj
        rw [getD_nE hj] at this
        unfold standB at this
        simp only [decide_eq_true_eq] at this
        omega) (by have := HX.out.2.2.1; omega)
      have := HX.out.2.2.1
      omega
    have HE : Hid (encS L = .inr (bytesOf (nds L)) ∧ (bytesOf (nds L)).length ≤ 16777216 ∧ 0 < L.length) := ⟨by unfold encS; rw [if_pos hT, if_neg (by omega)], by rw [bytesOf_len]; exact hby, by
      cases L with
      | nil => exact absurd rfl h2.1
      | cons x r => simp⟩
    clear hT h2 hby
    go_enter Tryz.func19, Tryz.ntmps19
    go_wp2_with fail
    refine HTC.out.mono ?_
    rw [HT.out]
    rintro e w1 ⟨rfl, hb1⟩
    have H1 : Hid (Below w.heap.size w w1) := hb1
    clear hb1
    go_wp2_with fail
    go_loopw [4, 5] (fun sv iv wr => ∃ i s : Nat, sv = .int .i64 (s : Int) ∧ iv = .int .i64 (i : Int) ∧ i ≤ n ∧ s ≤ 16777216 ∧ Hid (datL (L.take i) = s ∧ Below w.heap.size w wr)) (fun _ iv _ => n - (intOf iv).toNat)
    case atStart => exact ⟨0, 0, rfl, rfl, Nat.zero_le _, by omega, by simp [datL], H1.out⟩
    case round =>
      obtain ⟨i, s, rfl, rfl, hi, hs2, HR⟩ := hrel
      by_cases hlt : i < n
      · have hltI : (i : Int) < (n : Int) := by omega
        have hlS : i < L.length := by have := HX.out.2.1; omega
        obtain ⟨b', o', xd, xm, xk, rfl, hbw, -, -, -, -, p4, hxs⟩ := HX.out.1.at hlS
        replace p4 : wr.cell? ⟨b', o' + i * 5 + 4, none⟩ = some (.slice xd xm xk) := (HR.out.2.cell hbw).trans p4
        have hst := datL_step L hlS
        have hxl : xm = L[i].d.length := by obtain ⟨_, _, h, _⟩ := hxs; simp only [Value.slice.injEq] at h; exact h.2.1
        have hxm := HX.out.2.2.2 L[i] (List.getElem_mem _)
        have htk : datL (L.take (i + 1)) ≤ datL L := by
          have := datL_app (L.take (i + 1)) (L.drop (i + 1))
          rw [List.take_append_drop] at this
          omega
        rw [HR.out.1, ← hxl] at hst
        rw [← hxl] at hxm
        have hsx : s + xm ≤ 16777216 := by have := HX.out.2.2.1; omega
        have H2 : Hid (datL (L.take (i + 1)) = s + xm) := hst
        clear hst hxl hxs htk
        have hg : ¬ 16777216 - (s : Int) < (xm : Int) := by omega
        go_wp2
        go_roundw
        case rel => exact ⟨i + 1, s + xm, by go_num, by go_num, by omega, hsx, H2.out, HR.out.2⟩
        case measure => simp [intOf]; omega
      · obtain rfl : i = n := by omega
        have l1 : ¬ (i : Int) < (i : Int) := by omega
        go_wp2_with fail
        refine (RLaid_any L HT.out HX.out.2.2.1 L.length 0 (by omega) HE.out.2.2 wr _ (HX.out.1.below HR.out.2)).mono ?_
        rintro e w2 ⟨r, rfl, hr, hb2⟩
        rw [laid_all HT.out] at hr
        obtain ⟨ra, rc, hrv⟩ := hr.ne
        obtain ⟨rl, hrl⟩ : ∃ rl, (bytesOf (nds L)).length = rl := ⟨_, rfl⟩
        rw [hrl] at hrv
        subst hrv
        have hrl2 : rl ≤ 16777216 := by rw [← hrl]; exact HE.out.2.1
        have hrlI : ¬ (16777216 : Int) < (rl : Int) := by omega
        have H2 : Hid (Row .u8 5 w.heap.size w2 (.slice ra rl rc) (bytesOf (nds L)) ∧ Below w.heap.size w w2) := ⟨hr.mono HR.out.2.size, below_via HR.out.2 hb2 (Nat.le_refl _)⟩
        clear hr hb2 hrl
        go_wp2
        go_ret2
        rw [HE.out.1]
        exact ⟨⟨_, _, _, rfl, H2.out.1⟩, H2.out.2⟩
set_option maxRecDepth 20000 in
set_option maxHeartbeats 8000000 in
theorem BerEncodes_any {w : World} (hG : GlbE w) (a : Option Addr) (n c : Nat) (L : List Te) (hv : ElS w (.slice a n c) L) (hU : ∀ x ∈ L, U8s x.d ∧ x.d.length ≤ 9223372036854775807) (hn : L.length ≤ 9223372036854775807) :
    Calls Tryz.prog 4 #[.slice a n c] w fun e w' => e = .returned (.bool true) ∧ Below w.heap.size w w' := by
  have HX : Hid (GlbE w ∧ ElS w (.slice a n c) L) := ⟨hG, hv⟩
  have HL : Hid (∀ W : World, Below w.heap.size w W → Calls Tryz.prog 9 #[] W fun e w' => e = .returned (.bool true) ∧ Below W.heap.size W w') := fun W hW => live03_any (HX.out.1.below hW)
  have HH : Hid (Calls Tryz.prog 16 #[.slice a n c, .int .i64 300, .int .i64 16384] w fun e w' => HgOut e L ∧ Below w.heap.size w w') := Huge_any _ L hv (fun x hx => (hU x hx).2) hn
  clear hG hv hU hn
  go_enter Tryz.func4, Tryz.ntmps4
  go_wp2_with fail
  refine HH.out.mono ?_
  rintro e w1 ⟨⟨b, rfl, hb⟩, hbl⟩
  have HB : Hid (Below w.heap.size w w1 ∧ (b = false → L.length ≤ 300 ∧ datL L ≤ 16384)) := ⟨hbl, hb⟩
  clear hb hbl
  cases b with
  | true =>
    go_wp2_with fail
    refine (HL.out _ HB.out.1).mono ?_
    rintro e w2 ⟨rfl, hb2⟩
    go_wp2
    go_ret
    exact ⟨rfl, below_via HB.out.1 hb2 (Nat.le_refl _)⟩
  | false =>
    have HS : Hid (L.length ≤ 300 ∧ datL L ≤ 16384) := HB.out.2 rfl
    go_wp2_with fail
    refine (Copy_any _ L (HX.out.2.below HB.out.1) (by have := HS.out; omega) (by have := HS.out; omega)).mono ?_
    rintro e w2 ⟨⟨m, rfl, hm⟩, hb2⟩
    have H2 : Hid (Below w.heap.size w w2 ∧ ElS w2 m L) := ⟨below_via HB.out.1 hb2 (Nat.le_refl _), hm.s⟩
    clear hm hb2
    have hE := Encode_any (w := w2) (HX.out.1.below H2.out.1) m L H2.out.2 (by have := HS.out; omega) (by have := HS.out; omega)
    have HSM : Hid (∀ W : World, ElS W m L → Below w.heap.size w W → Calls Tryz.prog 13 #[m, .slice a n c] W fun e w' => e = .returned (.bool true) ∧ Below W.heap.size W w') := fun W h1 h2 => Same_any m (.slice a n c) L h1 (HX.out.2.below h2) (by have := HS.out; omega) (fun x hx => by have := datL_mem hx; have := HS.out; omega)
    have HRE : Hid (∀ W : World, Below w.heap.size w W → Calls Tryz.prog 19 #[.slice a n c] W fun e w' => EnOut W.heap.size w' e (encS L) ∧ Below W.heap.size W w') := fun W h1 => REncode_any _ L (HX.out.2.below h1) (by have := HS.out; omega)
    cases hO : encS L with
    | inl er =>
      obtain rfl := encS_bad hO HS.out
      rw [hO] at hE
      have HO : Hid (encS L = .inl 35) := hO
      have HE : Hid (Calls Tryz.prog 18 #[m] w2 fun e w' => e = .returned (.tuple #[.slice none 0 0, .int .i64 35]) ∧ Below w2.heap.size w2 w') := hE
      clear hE hO
      go_wp2_with fail
      refine HE.out.mono ?_
      rintro e w3 ⟨rfl, hb3⟩
      have H3 : Hid (Below w.heap.size w w3 ∧ ElS w3 m L) := ⟨below_via H2.out.1 hb3 (Nat.le_refl _), H2.out.2.below hb3⟩
      clear hb3
      go_wp2_with fail
      refine (HRE.out _ H3.out.1).mono ?_
      rintro e w4 ⟨he, hb4⟩
      rw [HO.out] at he
      have he2 : e = .returned (.tuple #[.slice none 0 0, .int .i64 35]) := he
      subst he2
      have H4 : Hid (Below w.heap.size w w4 ∧ ElS w4 m L) := ⟨below_via H3.out.1 hb4 (Nat.le_refl _), H3.out.2.below hb4⟩
      clear hb4 he
      go_wp2_with fail
      refine (SameBytes_any _ _ [] (nil_sl _) (nil_sl _) (by simp)).mono ?_
      rintro e w5 ⟨rfl, hb5⟩
      have H5 : Hid (Below w.heap.size w w5 ∧ ElS w5 m L) := ⟨below_via H4.out.1 hb5 (Nat.le_refl _), H4.out.2.below hb5⟩
      clear hb5
      go_wp2_with fail
      refine (num3_any _).mono ?_
      rintro e w' ⟨rfl, rfl⟩
      go_wp2_with fail
      refine (HSM.out _ H5.out.2 H5.out.1).mono ?_
      rintro e w6 ⟨rfl, hb6⟩
      have H6 : Hid (Below w.heap.size w w6) := below_via H5.out.1 hb6 (Nat.le_refl _)
      clear hb6
      go_wp2_with fail
      refine (HL.out _ H6.out).mono ?_
      rintro e w7 ⟨rfl, hb7⟩
      go_wp2
      go_ret
      exact ⟨rfl, below_via H6.out hb7 (Nat.le_refl _)⟩
    | inr M =>
      have hML : M.length ≤ 16777216 := by
        unfold encS at hO
        split at hO
        · split at hO
          · cases hO
          · cases hO; rw [bytesOf_len]; omega
        · cases hO
      rw [hO] at hE
      have HO : Hid (encS L = .inr M ∧ M.length ≤ 16777216) := ⟨hO, hML⟩
      have HE : Hid (Calls Tryz.prog 18 #[m] w2 fun e w' => (∃ a n c, e = .returned (.tuple #[.slice a n c, .int .i64 0]) ∧ Row .u8 5 w2.heap.size w' (.slice a n c) M) ∧ Below w2.heap.size w2 w') := hE
      clear hE hO hML
      go_wp2_with fail
      refine HE.out.mono ?_
      rintro e w3 ⟨⟨ra, rn, rc, rfl, hr⟩, hb3⟩
      have H3 : Hid (Below w.heap.size w w3 ∧ ElS w3 m L ∧ Row .u8 5 w2.heap.size w3 (.slice ra rn rc) M) := ⟨below_via H2.out.1 hb3 (Nat.le_refl _), H2.out.2.below hb3, hr⟩
      clear hb3 hr
      go_wp2_with fail
      refine (HRE.out _ H3.out.1).mono ?_
      rintro e w4 ⟨he, hb4⟩
      rw [HO.out.1] at he
      obtain ⟨sa, sn, sc, rfl, hs⟩ := he
      have H4 : Hid (Below w.heap.size w w4 ∧ ElS w4 m L ∧ Row .u8 5 w2.heap.size w4 (.slice ra rn rc) M ∧ Row .u8 5 w3.heap.size w4 (.slice sa sn sc) M) := ⟨below_via H3.out.1 hb4 (Nat.le_refl _), H3.out.2.1.below hb4, H3.out.2.2.below hb4, hs⟩
      clear hb4 hs
      go_wp2_with fail
      refine (SameBytes_any _ _ M H4.out.2.2.1.sl H4.out.2.2.2.sl (by have := HO.out.2; omega)).mono ?_
      rintro e w5 ⟨rfl, hb5⟩
      have H5 : Hid (Below w.heap.size w w5 ∧ ElS w5 m L) := ⟨below_via H4.out.1 hb5 (Nat.le_refl _), H4.out.2.1.below hb5⟩
      clear hb5
      go_wp2_with fail
      refine (num3_any _).mono ?_
      rintro e w' ⟨rfl, rfl⟩
      go_wp2_with fail
      refine (HSM.out _ H5.out.2 H5.out.1).mono ?_
      rintro e w6 ⟨rfl, hb6⟩
      have H6 : Hid (Below w.heap.size w w6) := below_via H5.out.1 hb6 (Nat.le_refl _)
      clear hb6
      go_wp2_with fail
      refine (HL.out _ H6.out).mono ?_
      rintro e w7 ⟨rfl, hb7⟩
      go_wp2
      go_ret
      exact ⟨rfl, below_via H6.out hb7 (Nat.le_refl _)⟩
end Go.Proofs.YtefebamomdcaaaaGreatDoor
