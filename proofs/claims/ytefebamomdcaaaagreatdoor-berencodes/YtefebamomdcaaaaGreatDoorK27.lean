/-
  Ber: the reference's Parse.
-/
import Derived.Test.YtefebamomdcaaaaGreatDoorK26
namespace Go.Proofs.YtefebamomdcaaaaGreatDoor
open Go.RowKit
set_option maxHeartbeats 1000000 in
theorem no_nil {w : World} (g : Nat) (bv ov : Value) (e a : Int) (hR : Blk 68 w g [bv, ov, .int .i64 0, .int .i64 0]) :
    Calls Tryz.prog 35 #[.pointer (some ⟨g, 0, none⟩), .int .i64 e, .int .i64 a] w fun r w' => r = .returned (.int .i64 0) ∧ Upd w w' g ∧ Blk 68 w' g [bv, ov, .int .i64 e, .int .i64 a] := by
  have f2 := hR.frozen 2
  have f3 := hR.frozen 3
  have c2 : w.cell? ⟨g, 2, none⟩ = some (.int .i64 0) := hR.cell 2
  have c3 : w.cell? ⟨g, 3, none⟩ = some (.int .i64 0) := hR.cell 3
  have HR : Hid (Blk 68 w g [bv, ov, .int .i64 0, .int .i64 0]) := hR
  clear hR
  go_enter Tryz.func35, Tryz.ntmps35
  go_wp2
  go_ret
  exact ⟨rfl, (Upd.set _ _ _ _).trans (Upd.set _ _ _ _), (Blk.set HR.out 2 (.int .i64 e)).set 3 (.int .i64 a)⟩
set_option maxRecDepth 20000 in
set_option maxHeartbeats 1000000 in
theorem relement_nil {w : World} (g : Nat) (bv : Value) (hR : Blk 68 w g [bv, .slice none 0 0, .int .i64 0, .int .i64 0]) :
    Calls Tryz.prog 34 #[.pointer (some ⟨g, 0, none⟩), .int .i64 0, .int .i64 0, .int .i64 0] w fun r w' => r = .returned (.int .i64 0) ∧ Upd w w' g ∧ Blk 68 w' g [bv, .slice none 0 0, .int .i64 2, .int .i64 0] := by
  have c1 : w.cell? ⟨g, 1, none⟩ = some (.slice none 0 0) := hR.cell 1
  have HR : Hid (Blk 68 w g [bv, .slice none 0 0, .int .i64 0, .int .i64 0]) := hR
  clear hR
  go_enter Tryz.func34, Tryz.ntmps34
  go_wp2_with (go_at_call 35; refine (no_nil g bv _ 2 0 HR.out).mono ?_; rintro e w1 ⟨rfl, hu, hr1⟩)
  go_ret
  exact ⟨rfl, hu, hr1⟩
set_option maxRecDepth 20000 in
set_option maxHeartbeats 4000000 in
theorem RParse_any {w : World} (v : Value) (M : List Int) (hv : Sl .u8 w v M) (uM : U8s M) (hl : M.length ≤ 9223372036854775807) :
    Calls Tryz.prog 12 #[v] w fun e w' => PsOut w.heap.size w' e M.length (parseS M) ∧ Below w.heap.size w w' := by
  obtain ⟨a, c, rfl, hc, hrd⟩ := hv
  by_cases hbig : 16777216 < M.length
  · have hI : (16777216 : Int) < (M.length : Int) := by omega
    have HP : Hid (parseS M = .inl (3, 0)) := by show _ = _; unfold parseS; rw [if_pos hbig]
    obtain ⟨n, hn⟩ : ∃ n, M.length = n := ⟨_, rfl⟩
    rw [HP.out]
    rw [hn] at hI ⊢
    clear hn hbig hrd hc
    go_enter Tryz.func12, Tryz.ntmps12
    go_wp2
    go_ret3
    exact ⟨rfl, Below.refl _ _⟩
  by_cases h0 : M.length = 0
  · have hM : M = [] := List.eq_nil_of_length_eq_zero h0
    subst hM
    have HP : Hid (parseS [] = .inl (2, 0)) := by show _ = _; rw [parseS_tr (M := []) (by simp), pr_bad (M := []) (p := 0) (q := ([] : List Int).length) (S := []) (L := []) (by simp) (e := (2, 0)) rfl]; rfl
    rw [HP.out]
    clear hrd hc hbig h0 hl uM
    go_enter Tryz.func12, Tryz.ntmps12
    go_upto_region 4 with (fail)
    refine wp_gen (fun W => Below w.heap.size w W ∧ Blk 68 W w.heap.size [.slice a 0 c, .slice none 0 0, .int .i64 0, .int .i64 0]) ⟨al1 _, Blk.new _ w _⟩ ?_
    rintro w1 ⟨hb1, hB1⟩
    have H1 : Hid (Below w.heap.size w w1 ∧ Blk 68 w1 w.heap.size [.slice a 0 c, .slice none 0 0, .int .i64 0, .int .i64 0]) := ⟨hb1, hB1⟩
    clear hb1 hB1
    go_wp2_with fail
    refine (relement_nil w.heap.size _ H1.out.2).mono ?_
    rintro e w2 ⟨rfl, hu, hr2⟩
    have hs2 : w.heap.size ≤ w1.heap.size := H1.out.1.size
    have H2 : Hid (Below w.heap.size w w2) := hu.below H1.out.1 hs2 (Nat.le_refl _)
    have r2 : w2.cell? ⟨w.heap.size, 2, none⟩ = some (.int .i64 2) := hr2.cell 2
    have r3 : w2.cell? ⟨w.heap.size, 3, none⟩ = some (.int .i64 0) := hr2.cell 3
    clear hu hr2
    go_upto_region 8 with (fail)
    go_quiet (fail)
    go_wp2
    go_ret3
    exact ⟨rfl, below_drewN _ H2.out⟩
  have hpos : 0 < M.length := by omega
  rcases hrd with hrd | ⟨b, off, rfl, hb, hrd⟩
  · rw [hrd] at hpos; simp at hpos
  obtain ⟨n, hn⟩ : ∃ n, M.length = n := ⟨_, rfl⟩
  have hn16 : n ≤ 16777216 := by omega
  have HX : Hid (Rd .u8 w b off M ∧ U8s M ∧ M.length = n) := ⟨hrd, uM, hn⟩
  have HT : Hid (parseS M = trOf n (pr M 0 n [] [])) := by show _ = _; rw [parseS_tr (by omega), hn]
  rw [HT.out]
  rw [hn] at hc hbig ⊢
  have hI : ¬ (16777216 : Int) < (n : Int) := by omega
  clear hrd uM hn hbig hpos h0 hl
  go_enter Tryz.func12, Tryz.ntmps12
  go_upto_region 4 with (fail)
  refine wp_gen (fun W => Below w.heap.size w W ∧ Rdg W w.heap.size b off n c (.slice none 0 0) 0 0) ⟨al1 _, Blk.new _ w _⟩ ?_
  rintro w1 ⟨hb1, hB1⟩
  have H1 : Hid (Below w.heap.size w w1 ∧ Rdg w1 w.heap.size b off n c (.slice none 0 0) 0 0) := ⟨hb1, hB1⟩
  clear hb1 hB1
  go_wp2_with fail
  refine (relement_any b off n c M HX.out.2.1 HX.out.2.2 hn16 hc 64 0 rfl w1 w.heap.size 0 n _ [] hb (below_rd H1.out.1 hb HX.out.1) H1.out.2 (Elems.nil _ _) (Nat.le_refl _) (Nat.zero_le _) (by simp)).mono ?_
  rintro e w2 ⟨hout, hb2⟩
  have H2 : Hid (Below w.heap.size w w2) := H1.out.1.trans hb2
  clear hb2
  rcases hout with ⟨er, at_, o8, rfl, hr8, hne, hpr⟩ | ⟨p8, L8, o8, rfl, hr8, hE8, hp8, hq8, hL8, hpr⟩
  · have HO : Hid (trOf n (pr M 0 n [] []) = .inl (er, at_)) := by show _ = _; rw [hpr [] rfl]; rfl
    have r2 : w2.cell? ⟨w.heap.size, 2, none⟩ = some (.int .i64 er) := hr8.cell 2
    have r3 : w2.cell? ⟨w.heap.size, 3, none⟩ = some (.int .i64 (at_ : Int)) := hr8.cell 3
    have g1 : (er == 0) = false := by simpa using hne
    have g2 : (er != 0) = true := by simpa using hne
    clear hr8 hne hpr
    go_upto_region 8 with (fail)
    go_quiet (fail)
    go_wp2
    go_ret3
    rw [HO.out]
    exact ⟨rfl, below_drewN _ H2.out⟩
  · have hpr0 : pr M 0 n [] [] = .inr (p8, L8) := by rw [hpr [] rfl, prC_end]
    have r2 : w2.cell? ⟨w.heap.size, 2, none⟩ = some (.int .i64 0) := hr8.cell 2
    have r1 : w2.cell? ⟨w.heap.size, 1, none⟩ = some o8 := hr8.cell 1
    by_cases hlt : p8 < n
    · have HO : Hid (trOf n (pr M 0 n [] []) = .inl (33, p8)) := by show _ = _; rw [hpr0]; unfold trOf; simp only [if_pos hlt]
      have g1 : (p8 : Int) < (n : Int) := by omega
      have HR8 : Hid (Rdg w2 w.heap.size b off n c o8 0 0) := hr8
      have hgs : w.heap.size < w2.heap.size := hr8.lt
      clear hr8 hE8 hpr hpr0
      go_upto_region 8 with (go_at_call 35; refine (no_any w.heap.size b off n c _ 0 0 33 p8 HR8.out).mono ?_; rintro e w3 ⟨rfl, hu, hr3⟩; have q2 : w3.cell? ⟨w.heap.size, 2, none⟩ = some (.int .i64 33) := hr3.cell 2; have q3 : w3.cell? ⟨w.heap.size, 3, none⟩ = some (.int .i64 (p8 : Int)) := hr3.cell 3)
      have H3 : Hid (Below w.heap.size w w3) := hu.below H2.out (by omega) (Nat.le_refl _)
      clear hu hr3 r1 r2
      go_quiet (fail)
      go_wp2
      go_ret3
      rw [HO.out]
      exact ⟨rfl, below_drewN _ H3.out⟩
    · have HO : Hid (trOf n (pr M 0 n [] []) = .inr L8 ∧ Elems w.heap.size w2 o8 L8) := ⟨by rw [hpr0]; unfold trOf; simp only [if_neg hlt], hE8.mono (by omega)⟩
      have g1 : ¬ (p8 : Int) < (n : Int) := by omega
      obtain rfl : p8 = n := by omega
      clear hr8 hE8 hpr hpr0
      go_wp2
      go_ret3
      rw [HO.out.1]
      exact ⟨⟨_, rfl, HO.out.2⟩, H2.out⟩
end Go.Proofs.YtefebamomdcaaaaGreatDoor
/-
  Ber: the reference's End walked: behind which element what one is made of ends.
-/
namespace Go.Proofs.YtefebamomdcaaaaGreatDoor
open Go.RowKit
abbrev nE : Te := ⟨0, 0, 0, false, []⟩
/-- What End tells. -/
def EndOut (e : Ending) (L : List Te) (i : Nat) : Prop := ∃ k : Nat, e = .returned (.int .i64 (k : Int)) ∧ i < k ∧ k ≤ L.length ∧ (∀ j, i < j → j < k → (L.getD i nE).dp < (L.getD j nE).dp) ∧ (k = L.length ∨ ¬ (L.getD i nE).dp < (L.getD k nE).dp)
theorem getD_nE {L : List Te} {j : Nat} (h : j < L.length) : L.getD j nE = L[j] := by
  rw [List.getD_eq_getElem?_getD, List.getElem?_eq_getElem h]; rfl
set_option maxRecDepth 20000 in
set_option maxHeartbeats 4000000 in
theorem End_any {w : World} (v : Value) (L : List Te) (hv : ElS w v L) (i : Nat) (hi : i < L.length) (hn : L.length ≤ 1152921504606846976) :
    Calls Tryz.prog 43 #[v, .int .i64 (i : Int)] w fun e w' => EndOut e L i ∧ Below w.heap.size w w' := by
  obtain ⟨n, hnn⟩ : ∃ n, L.length = n := ⟨_, rfl⟩
  have HX : Hid (ElS w v L ∧ i < L.length ∧ L.length = n) := ⟨hv, hi, hnn⟩
  obtain ⟨a, c, rfl⟩ : ∃ a c, v = .slice a n c := by obtain ⟨a, c, Y, h, _⟩ := hv; exact ⟨a, c, by rw [h, hnn]⟩
  obtain ⟨b, o, ad, m, cd, rfl, hb, p0, -, -, -, -, -⟩ := hv.at hi
  have hin : i < n := by omega
  have hnM : n ≤ 1152921504606846976 := by omega
  have hiI : (i : Int) < (n : Int) := by omega
  obtain ⟨di, hdi⟩ : ∃ d, L[i].dp = d := ⟨_, rfl⟩
  rw [hdi] at p0
  have HD : Hid ((L.getD i nE).dp = di) := by show _ = _; rw [getD_nE hi, hdi]
  clear hv hnn hn hi hdi
  go_enter Tryz.func43, Tryz.ntmps43
  go_wp2_with fail
  go_loopw [5] (fun kv wr => ∃ k : Nat, kv = .int .i64 (k : Int) ∧ i < k ∧ k ≤ n ∧ Below w.heap.size w wr ∧ Hid (∀ j, i < j → j < k → (L.getD i nE).dp < (L.getD j nE).dp)) (fun kv _ => n - (intOf kv).toNat)
  case atStart => exact ⟨i + 1, by go_num, by omega, by omega, Below.refl _ _, fun j h1 h2 => by omega⟩
  case round =>
    obtain ⟨k, rfl, hik, hkn, hB, hJ⟩ := hrel
    have HB : Hid (Below w.heap.size w wr ∧ i < k ∧ k ≤ n) := ⟨hB, hik, hkn⟩
    by_cases hlt : k < n
    · have l1 : (k : Int) < (n : Int) := by omega
      have hkL : k < L.length := by have := HX.out.2.2; omega
      obtain ⟨b', o', ad', m', cd', hbo, _, q0, -, -, -, -, -⟩ := HX.out.1.at hkL
      cases hbo
      replace p0 : wr.cell? ⟨b, o + i * 5, none⟩ = some (.int .i64 di) := (hB.cell (p := ⟨b, o + i * 5, none⟩) hb).trans p0
      obtain ⟨dk, hdk⟩ : ∃ d, L[k].dp = d := ⟨_, rfl⟩
      rw [hdk] at q0
      replace q0 : wr.cell? ⟨b, o + k * 5, none⟩ = some (.int .i64 dk) := (hB.cell (p := ⟨b, o + k * 5, none⟩) hb).trans q0
      have HK : Hid ((L.getD k nE).dp = dk) := by show _ = _; rw [getD_nE hkL, hdk]
      clear hB hdk hkL
      by_cases hd : di < dk
      · have HJ : Hid (∀ j, i < j → j < k + 1 → (L.getD i nE).dp < (L.getD j nE).dp) := fun j h1 h2 => by
          by_cases hjk : j = k
          · subst hjk; rw [HD.out, HK.out]; exact hd
          · exact hJ.out j h1 (by omega)
        clear hJ
        go_upto_region 2 with (fail)
        go_quiet (fail)
        go_wp2
        go_roundw
        case rel => exact ⟨k + 1, by go_num, by omega, by omega, HB.out.1.trans ⟨rfl, rfl, rfl, Nat.le_refl _, fun _ _ => rfl⟩, HJ.out⟩
        case measure => simp [intOf]; omega
      · have HE : Hid (EndOut (.returned (.int .i64 (k : Int))) L i) := ⟨k, rfl, hik, by rw [HX.out.2.2]; exact hkn, hJ.out, .inr (by rw [HD.out, HK.out]; exact hd)⟩
        clear hJ
        go_upto_region 2 with (fail)
        go_quiet (fail)
        go_wp2
        go_ret
        exact ⟨HE.out, HB.out.1.trans ⟨rfl, rfl, rfl, Nat.le_refl _, fun _ _ => rfl⟩⟩
    · obtain rfl : k = n := by omega
      have HE : Hid (EndOut (.returned (.int .i64 (k : Int))) L i) := ⟨k, rfl, hik, by rw [HX.out.2.2]; exact hkn, hJ.out, .inl HX.out.2.2.symm⟩
      have l1 : ¬ (k : Int) < (k : Int) := by omega
      clear hJ hB
      go_upto_region 2 with (fail)
      go_quiet (fail)
      go_wp2
      go_ret
      exact ⟨HE.out, HB.out.1.trans ⟨rfl, rfl, rfl, Nat.le_refl _, fun _ _ => rfl⟩⟩
end Go.Proofs.YtefebamomdcaaaaGreatDoor
