/-
  Der: an object identifier of any bytes.
-/
import Derived.LaidEql
import Derived.Stop.Asserts
import Derived.RowKitTokens
import Derived.Test.YtillkhjihggcjaaGreatDoorK7
namespace Go.Proofs.YtillkhjihggcjaaGreatDoor
open Go.RowKit
def oidX (v : Nat) : Nat := min (v / 40) 2
def oidT : List Nat → List Nat
  | [] => []
  | v :: A => (v - 40 * oidX v) :: A
def oidJ (T : List Nat) : List Int := T.flatMap fun v => 46 :: decI v
def oidS (A : List Nat) : List Int := decI (oidX (A.headD 0)) ++ oidJ (oidT A)
def oidLong (A : List Nat) : Bool := (oidT A).any fun v => decide (2147483647 < v)
/-- What Oid tells: the text and the error. -/
def OidR (X : List Int) (s : List Int) (er : Int) : Prop :=
  (¬ (fine X X.length ∧ arcsOk X = true) ∧ s = [] ∧ er = 6) ∨ ((fine X X.length ∧ arcsOk X = true) ∧ oidLong (gst X X.length).1 = true ∧ s = [] ∧ er = 3)
    ∨ ((fine X X.length ∧ arcsOk X = true) ∧ oidLong (gst X X.length).1 = false ∧ s = oidS (gst X X.length).1 ∧ er = 0)
theorem OidR.uniq {X s s' : List Int} {e e' : Int} (h : OidR X s e) (h' : OidR X s' e') : s = s' ∧ e = e' := by
  rcases h with ⟨h1, rfl, rfl⟩ | ⟨h1, h2, rfl, rfl⟩ | ⟨h1, h2, rfl, rfl⟩ <;> rcases h' with ⟨g1, rfl, rfl⟩ | ⟨g1, g2, rfl, rfl⟩ | ⟨g1, g2, rfl, rfl⟩
  all_goals first
    | exact ⟨rfl, rfl⟩
    | exact absurd g1 h1
    | exact absurd h1 g1
    | (rw [h2] at g2; cases g2)
theorem decI_le (u : Nat) (h : u < 18446744073709551616) : (decI u).length ≤ 20 := by
  rw [decI_len, Lib.decDigits_length]
  exact Lib.nDigits_le20 u h
theorem oidJ_snoc (T : List Nat) (i : Nat) (hi : i < T.length) : oidJ (T.take (i + 1)) = oidJ (T.take i) ++ (46 :: decI (T.getD i 0)) := by
  rw [List.take_succ_eq_append_getElem hi]
  unfold oidJ
  rw [List.flatMap_append, List.getD_eq_getElem?_getD, List.getElem?_eq_getElem hi]
  simp
theorem oidJ_len : ∀ T : List Nat, (∀ v ∈ T, v < 18446744073709551616) → (oidJ T).length ≤ 21 * T.length
  | [], _ => by simp [oidJ]
  | v :: T, h => by
    have h1 := oidJ_len T (fun x hx => h x (by simp [hx]))
    have h2 := decI_le v (h v (by simp))
    have : oidJ (v :: T) = (46 :: decI v) ++ oidJ T := rfl
    rw [this, List.length_append, List.length_cons, List.length_cons]; omega
theorem mrow_str {w : World} {B : Nat} {v : Value} {xs : List Int} {n : Nat} (h : MRow 1 5 B w v n (xs.map (Value.int .u8))) (hn : xs.length = n) (h0 : 0 < n) : ∃ b c, v = .slice (some ⟨b, 0, none⟩) n c ∧ Sem.run Tryz.prog (convert 22 9 (.slice (some ⟨b, 0, none⟩) n c)) w = .ok (.string (strOfNums xs)) w := by
  obtain ⟨b, c, rfl, _, _, _, hcell⟩ := h.at h0
  refine ⟨b, _, rfl, run_convert_bytes_arg w _ _ Tryz.und8 Tryz.e8 b 0 n _ xs hn (fun i hi => ?_) _ Tryz.str⟩
  rw [Nat.zero_add, hcell i (by omega), List.getElem?_map, List.getD_eq_getElem?_getD, List.getElem?_eq_getElem (by omega)]
  rfl
set_option maxRecDepth 20000 in
set_option maxHeartbeats 8000000 in
theorem Oid_any {w : World} (v : Value) (X : List Int) (hX : Sl .u8 w v X) (uX : U8s X) (hl : X.length ≤ 5000) (hT : P10 w) :
    Calls Tryz.prog 93 #[v] w fun e w' => (∃ s er, OidR X s er ∧ e = .returned (.tuple #[.string (strOfNums s), .int .i64 er])) ∧ Below w.heap.size w w' := by
  have HX : Hid (Sl .u8 w v X ∧ U8s X ∧ X.length ≤ 5000 ∧ P10 w) := ⟨hX, uX, hl, hT⟩
  clear hX uX hl hT
  go_enter Tryz.func93, Tryz.ntmps93
  go_wp2_with fail
  refine (laidArcs_any v X HX.out.1 HX.out.2.1 HX.out.2.2.1).mono ?_
  rintro e w1 ⟨ha, hb1⟩
  by_cases hg : fine X X.length ∧ arcsOk X = true
  · rcases ha with ⟨_, r1, rfl, hr1⟩ | ⟨hf, _⟩
    · rw [hg.2]
      obtain ⟨A, hA⟩ : ∃ A, (gst X X.length).1 = A := ⟨_, rfl⟩
      rw [hA] at hr1
      have hAl : A.length ≤ 5000 := by rw [← hA]; have := gst_len X X.length; have := HX.out.2.2.1; omega
      obtain ⟨v0, A0, rfl⟩ : ∃ v0 A0, A = v0 :: A0 := by
        cases A with
        | nil =>
          have h1 := hg.2
          unfold arcsOk at h1
          rw [hA] at h1
          simp at h1
        | cons v0 A0 => exact ⟨v0, A0, rfl⟩
      obtain ⟨n, hn⟩ : ∃ n, (v0 :: A0).length = n := ⟨_, rfl⟩
      have hCl : (capL 2147483728 (v0 :: A0)).length = n := by unfold capL; rw [List.length_map]; exact hn
      have hn0 : 0 < n := by rw [← hn]; simp
      obtain ⟨b1, S1, hv, hB1, hA1, hl1, ht1, hm1⟩ := hr1.open n hCl hn0
      subst hv
      obtain ⟨k1, hk1⟩ : ∃ k, S1.length = k := ⟨_, rfl⟩
      rw [hk1] at hl1 ⊢
      obtain ⟨c0, hc0⟩ : ∃ c0 : Int, capN 2147483728 v0 = c0 := ⟨_, rfl⟩
      have cv : c0 = ((min v0 2147483728 : Nat) : Int) := by rw [← hc0]; rfl
      have g0 : S1.getD 0 0 = c0 := by
        have h1 : (S1.take n).getD 0 0 = c0 := by rw [ht1]; exact hc0
        rwa [List.getD_eq_getElem?_getD, List.getElem?_take, if_pos (by omega), ← List.getD_eq_getElem?_getD] at h1
      have d0 : w1.cell? ⟨b1, 0, none⟩ = some (.int .u64 c0) := by rw [hA1.cell 0 (by omega), g0]
      have f0 := hA1.frozen 0
      obtain ⟨x, hx⟩ : ∃ x, oidX v0 = x := ⟨_, rfl⟩
      have hxv : x = min (v0 / 40) 2 := hx.symm
      have c00 : 0 ≤ c0 := by omega
      have c01 : c0 ≤ 2147483728 := by omega
      have hxc : min (c0 / 40) 2 = (x : Int) := by omega
      have hx2 : (x : Int) ≤ 2 := by omega
      have hx2N : x ≤ 2 := by omega
      have hsub : 0 ≤ c0 - 40 * (x : Int) := by omega
      obtain ⟨q, hq⟩ : ∃ q : Int, c0 - 40 * (x : Int) = q := ⟨_, rfl⟩
      rw [hq] at hsub
      have q1 : q ≤ 2147483728 := by omega
      obtain ⟨C, hC⟩ : ∃ C : List Int, q :: capL 2147483728 A0 = C := ⟨_, rfl⟩
      have HS : Hid ((S1.set 0 q).take n = C ∧ C.length = n ∧ U64s C) := by
        have h2 : S1.take n = c0 :: capL 2147483728 A0 := by rw [ht1, ← hc0]; rfl
        refine ⟨?_, ?_, ?_⟩
        · rw [← hC, List.take_set, h2]; rfl
        · rw [← hC, List.length_cons]; unfold capL; rw [List.length_map]; simpa using hn
        · rw [← hC]
          intro z hz
          rcases List.mem_cons.1 hz with rfl | hz
          · omega
          · unfold capL at hz
            obtain ⟨u, _, rfl⟩ := List.mem_map.1 hz
            unfold capN
            omega
      have HT : Hid ((∃ j, j < n ∧ (2147483647 : Int) < C.getD j 0) ↔ oidLong (v0 :: A0) = true) := by
        show _ ↔ _
        have hT0 : oidT (v0 :: A0) = (v0 - 40 * x) :: A0 := by show (v0 - 40 * oidX v0) :: A0 = _; rw [hx]
        unfold oidLong
        rw [hT0, List.any_eq_true]
        constructor
        · rintro ⟨j, hj, h⟩
          rw [← hC] at h
          cases j with
          | zero => exact ⟨v0 - 40 * x, List.mem_cons_self, by rw [List.getD_cons_zero] at h; simp; omega⟩
          | succ j =>
            have hj' : j < A0.length := by simp at hn; omega
            refine ⟨A0[j], by simp, ?_⟩
            have h3 : (capL 2147483728 A0).getD j 0 = capN 2147483728 A0[j] := by unfold capL; simp [List.getD, hj']
            rw [List.getD_cons_succ, h3] at h
            unfold capN at h
            simp; omega
        · rintro ⟨u, hu, h⟩
          rw [← hC]
          rcases List.mem_cons.1 hu with rfl | hu
          · exact ⟨0, hn0, by rw [List.getD_cons_zero]; simp at h; omega⟩
          · obtain ⟨j, hj, rfl⟩ := List.mem_iff_getElem.1 hu
            refine ⟨j + 1, by simp at hn; omega, ?_⟩
            have h3 : (capL 2147483728 A0).getD j 0 = capN 2147483728 A0[j] := by unfold capL; simp [List.getD, hj]
            rw [List.getD_cons_succ, h3]
            unfold capN
            simp at h; omega
      have HE : Hid (oidLong (v0 :: A0) = false → C = (oidT (v0 :: A0)).map (fun (u : Nat) => (u : Int)) ∧ ∀ u ∈ oidT (v0 :: A0), u ≤ 2147483647) := by
        intro hlong
        have hT0 : oidT (v0 :: A0) = (v0 - 40 * x) :: A0 := by show (v0 - 40 * oidX v0) :: A0 = _; rw [hx]
        unfold oidLong at hlong
        rw [hT0, List.any_eq_false] at hlong
        rw [hT0]
        have hall : ∀ u ∈ (v0 - 40 * x) :: A0, u ≤ 2147483647 := fun u hu => by have := hlong u hu; simp at this; omega
        refine ⟨?_, hall⟩
        rw [← hC, List.map_cons]
        congr 1
        · have := hall _ (List.mem_cons_self); omega
        · unfold capL
          refine List.map_congr_left fun u hu => ?_
          have := hall u (List.mem_cons_of_mem _ hu)
          unfold capN; omega
      have H1 : Hid (Arr .u64 136 w1 b1 S1 ∧ w.heap.size ≤ b1 ∧ Below w.heap.size w w1 ∧ n ≤ S1.length ∧ fine X X.length ∧ arcsOk X = true ∧ (gst X X.length).1 = v0 :: A0 ∧ oidX v0 = x ∧ (v0 :: A0).length = n ∧ n ≤ 5000) := ⟨hA1, hB1, hb1, by omega, hg.1, hg.2, hA, hx, hn, by omega⟩
      have hn2 : n ≤ 5000 := H1.out.2.2.2.2.2.2.2.2.2
      clear hr1 hb1 hA1 hB1 hl1 ht1 hm1 g0 hk1 hg hA hAl hn hCl hc0 cv hx hxv
      have hnI : (1 : Int) ≤ (n : Int) := by omega
      have upd : Hid (∀ W, W = w1.setCell ⟨b1, 0, none⟩ (.int .u64 q) → Below w.heap.size w W ∧ Rd .u64 W b1 0 C ∧ b1 < W.heap.size) := by
        rintro W rfl
        have hA := H1.out.1.set 0 q
        refine ⟨(Upd.set w1 b1 0 _).below H1.out.2.2.1 H1.out.2.2.1.size H1.out.2.1, ?_, hA.lt⟩
        have h3 := hA.rd 0 n (by rw [List.length_set]; have := H1.out.2.2.2.1; omega)
        rw [List.drop_zero, HS.out.1] at h3
        exact h3
      go_upto_region 6 with (fail)
      refine wp_gen (fun W => Below w.heap.size w W ∧ Rd .u64 W b1 0 C ∧ b1 < W.heap.size) ?_ ?_
      · refine upd.out _ ?_
        first
          | rfl
          | (congr 2; omega)
      rintro w2 ⟨hb2, hrd2, hlt2⟩
      have H2 : Hid (Below w.heap.size w w2 ∧ Rd .u64 w2 b1 0 C ∧ b1 < w2.heap.size ∧ P10 w2) := ⟨hb2, hrd2, hlt2, P10.below HX.out.2.2.2 hb2⟩
      clear hb2 hrd2 hlt2 d0 f0
      have hmx := mxN_gt (X := C) 2147483647 n hn0
      have hmb := mxN_bd HS.out.2.2 n
      obtain ⟨m, hm⟩ : ∃ m, mxN C n = m := ⟨_, rfl⟩
      rw [hm] at hmx hmb
      have HM : Hid (mxN C n = m ∧ ((2147483647 : Int) < m ↔ oidLong (v0 :: A0) = true)) := ⟨hm, hmx.trans HT.out⟩
      have m0 := hmb.1
      have m1 := hmb.2
      clear hmx hmb hm
      go_wp2_with fail
      refine (Max_any b1 k1 n C H2.out.2.1 HS.out.2.1 hn0 (by omega) HS.out.2.2).mono ?_
      rw [HM.out.1]
      rintro e w3 ⟨rfl, rfl⟩
      by_cases hlong : (2147483647 : Int) < m
      · go_wp2
        go_ret2
        refine ⟨⟨[], 3, .inr (.inl ⟨⟨H1.out.2.2.2.2.1, H1.out.2.2.2.2.2.1⟩, ?_, rfl, rfl⟩), rfl⟩, H2.out.1⟩
        rw [H1.out.2.2.2.2.2.2.1]; exact HM.out.2.1 hlong
      have hnl : oidLong (v0 :: A0) = false := by
        cases h : oidLong (v0 :: A0) with
        | false => rfl
        | true => exact absurd (HM.out.2.2 h) hlong
      obtain ⟨T, hTT⟩ : ∃ T, oidT (v0 :: A0) = T := ⟨_, rfl⟩
      have hE := HE.out hnl
      rw [hTT] at hE
      have HN : Hid (oidLong (v0 :: A0) = false ∧ oidT (v0 :: A0) = T ∧ C = T.map (fun (u : Nat) => (u : Int)) ∧ (∀ u ∈ T, u ≤ 2147483647) ∧ T.length = n) := ⟨hnl, hTT, hE.1, hE.2, by have := HS.out.2.1; rw [hE.1, List.length_map] at this; exact this⟩
      clear hnl hTT hE
      go_wp2_with fail
      refine (AppU_any (.slice none 0 0) w2.heap.size x [] (MRow.nil _ _ _ _) (by omega) (by simp) (Nat.le_refl _) H2.out.2.2.2).mono ?_
      rintro e w4 ⟨r4, rfl, hr4, hb4⟩
      rw [List.nil_append] at hr4
      have H4 : Hid (MRow 1 5 w2.heap.size w4 r4 (decI x).length ((decI x).map (Value.int .u8)) ∧ Below w2.heap.size w2 w4) := ⟨hr4, hb4⟩
      clear hr4 hb4
      go_wp2_with fail
      go_loopw [7, 36] (fun sv iv wr => ∃ (i : Nat) (s0 : Value) (S : List Int), s0 = sv ∧ iv = .int .i64 i ∧ i ≤ n ∧ S = decI x ++ oidJ (T.take i) ∧ MRow 1 5 w2.heap.size wr s0 S.length (S.map (Value.int .u8)) ∧ Below w2.heap.size w2 wr) (fun _ iv _ => n - (intOf iv).toNat)
      case atStart => exact ⟨0, _, _, rfl, rfl, by omega, rfl, by simpa [oidJ] using H4.out.1, H4.out.2⟩
      case round =>
        obtain ⟨i, s0, S, rfl, rfl, hi, hS, hr, hb⟩ := hrel
        have hSl : S.length ≤ 110000 := by
          have h1 := decI_le x (by omega)
          have h2 := oidJ_len (T.take i) (fun u hu => by have := HN.out.2.2.2.1 u (List.mem_of_mem_take hu); omega)
          rw [List.length_take] at h2
          rw [hS, List.length_append]
          omega
        have H5 : Hid (S = decI x ++ oidJ (T.take i) ∧ MRow 1 5 w2.heap.size wr s0 S.length (S.map (Value.int .u8)) ∧ Below w2.heap.size w2 wr) := ⟨hS, hr, hb⟩
        clear hS hr hb
        by_cases hlt : i < n
        · have l1 : (i : Int) < (n : Int) := by omega
          obtain ⟨u, hu⟩ : ∃ u, T.getD i 0 = u := ⟨_, rfl⟩
          have hu2 : u ≤ 2147483647 := by
            rw [← hu, List.getD_eq_getElem?_getD, List.getElem?_eq_getElem (by have := HN.out.2.2.2.2; omega)]
            exact HN.out.2.2.2.1 _ (List.getElem_mem _)
          have cu : wr.cell? ⟨b1, i, none⟩ = some (.int .u64 (u : Int)) := by
            have h1 := H2.out.2.1 i (by have := HS.out.2.1; omega)
            rw [Nat.zero_add] at h1
            rw [H5.out.2.2.cell (p := ⟨b1, i, none⟩) H2.out.2.2.1, h1]
            have hi' : i < T.length := by have := HN.out.2.2.2.2; omega
            rw [HN.out.2.2.1, ← hu]
            simp [List.getD, hi']
          have HU : Hid (T.getD i 0 = u) := hu
          clear hu
          go_wp2_with (at_builtin; refine wpList_apm rfl (.tmp 40) (.tmp 41) 22 22 rfl 1 (.int .u8 0) rfl 5 1 Tryz.und8 Tryz.info8 (by decide) w2.heap.size _ S.length _ rfl (H5.out.2.1.alloc _) _ 1 [.int .u8 46] rfl (src_sl Tryz.und8 (new1 46)) (by omega) (by have := H5.out.2.2.size; simp; omega) ?_; intro v6 w6 hr6 hg6)
          have hb6 : Below w2.heap.size w2 w6 := (al2' H5.out.2.2).trans (hg6.below (H5.out.2.1.alloc _) (by have := H5.out.2.2.size; simp; omega))
          have H6 : Hid (MRow 1 5 w2.heap.size w6 v6 (S ++ [46]).length ((S ++ [46]).map (Value.int .u8)) ∧ Below w2.heap.size w2 w6) := ⟨by rw [List.length_append, List.map_append]; exact hr6, hb6⟩
          clear hr6 hg6 hb6 cu
          refine (AppU_any v6 w2.heap.size u (S ++ [46]) H6.out.1 (by omega) (by rw [List.length_append]; simp; omega) H6.out.2.size (P10.below H2.out.2.2.2 H6.out.2)).mono ?_
          rintro e w7 ⟨r7, rfl, hr7, hb7⟩
          have H7 : Hid (MRow 1 5 w2.heap.size w7 r7 (S ++ [46] ++ decI u).length ((S ++ [46] ++ decI u).map (Value.int .u8)) ∧ Below w2.heap.size w2 w7) := ⟨hr7, H6.out.2.trans hb7⟩
          clear hr7 hb7
          go_wp2
          go_roundw
          case rel =>
            refine ⟨i + 1, _, _, rfl, by go_num, by omega, ?_, H7.out.1, H7.out.2⟩
            rw [oidJ_snoc T i (by have := HN.out.2.2.2.2; omega), HU.out, H5.out.1]
            simp
          case measure => simp [intOf]; omega
        · obtain rfl : i = n := by omega
          have l1 : ¬ (i : Int) < (i : Int) := by omega
          have hS2 : S = oidS (v0 :: A0) := by
            rw [H5.out.1, List.take_of_length_le (by have := HN.out.2.2.2.2; omega)]
            unfold oidS
            rw [HN.out.2.1, List.headD_cons, H1.out.2.2.2.2.2.2.2.1]
          have hpos : 0 < S.length := by
            rw [H5.out.1, List.length_append, decI_len, Lib.decDigits_length]
            have := Lib.nDigits_pos x; omega
          obtain ⟨b5, c5, hv5, hcv⟩ := mrow_str H5.out.2.1 rfl hpos
          subst hv5
          have HS2 : Hid (S = oidS (v0 :: A0)) := hS2
          clear hS2 hpos
          go_wp2
          go_ret2
          refine ⟨⟨S, 0, .inr (.inr ⟨⟨H1.out.2.2.2.2.1, H1.out.2.2.2.2.2.1⟩, ?_, ?_, rfl⟩), rfl⟩, H2.out.1.trans (H5.out.2.2.mono H2.out.1.size)⟩
          · rw [H1.out.2.2.2.2.2.2.1]; exact HN.out.1
          · rw [H1.out.2.2.2.2.2.2.1]; exact HS2.out
    · exact absurd hg.1 hf
  · have HR : Hid (OidR X [] 6) := .inl ⟨hg, rfl, rfl⟩
    obtain ⟨r1, rfl, hne⟩ : ∃ r1, e = .returned (.tuple #[r1, .bool false]) ∧ True := by
      rcases ha with ⟨hf, r1, rfl, _⟩ | ⟨_, rfl⟩
      · have h1 : arcsOk X = false := by
          cases h : arcsOk X with
          | false => rfl
          | true => exact absurd ⟨hf, h⟩ hg
        rw [h1]; exact ⟨r1, rfl, trivial⟩
      · exact ⟨_, rfl, trivial⟩
    have HB : Hid (Below w.heap.size w w1) := hb1
    clear ha hb1 hg hne
    go_wp2
    go_ret2
    exact ⟨⟨[], 6, HR.out, rfl⟩, HB.out⟩
end Go.Proofs.YtillkhjihggcjaaGreatDoor
/-
  Der: yes or no; are bytes a number's?
-/
namespace Go.Proofs.YtillkhjihggcjaaGreatDoor
open Go.RowKit
/-- What Bool answers. -/
def boolV (X : List Int) : Bool := decide (X.length = 1) && decide (X.getD 0 0 = 255)
def boolE (X : List Int) : Int := if X.length = 1 ∧ (X.getD 0 0 = 0 ∨ X.getD 0 0 = 255) then 0 else 6
theorem bool_cases {w : World} {v : Value} {X : List Int} (hX : Sl .u8 w v X) (uX : U8s X) : (∃ a n c, v = .slice a n c ∧ X.length = n ∧ n ≠ 1) ∨ ∃ b off c x, v = .slice (some ⟨b, off, none⟩) 1 c ∧ X = [x] ∧ U8 x ∧ w.cell? ⟨b, off, none⟩ = some (.int .u8 x) := by
  obtain ⟨a, c, rfl, hc, hx⟩ := hX
  by_cases h : X.length = 1
  · right
    rcases hx with hx | ⟨b, off, rfl, hb, hr⟩
    · rw [hx] at h; simp at h
    · match X, h with
      | [x], _ => exact ⟨b, off, c, x, rfl, rfl, uX x (by simp), hr 0 (by simp)⟩
  · exact .inl ⟨a, _, c, rfl, rfl, h⟩
/-- Are these bytes a number's? -/
def intOk (X : List Int) : Bool := if X.length < 2 then decide (X.length = 1) else !((decide (X.getD 0 0 = 0) && decide (X.getD 1 0 < 128)) || (decide (X.getD 0 0 = 255) && decide (128 ≤ X.getD 1 0)))
theorem int_cases {w : World} {v : Value} {X : List Int} (hX : Sl .u8 w v X) (uX : U8s X) (hl : X.length ≤ 16384) : (∃ a n c, v = .slice a n c ∧ X.length = n ∧ n < 2) ∨ ∃ b off n c x y, v = .slice (some ⟨b, off, none⟩) n c ∧ X.length = n ∧ 2 ≤ n ∧ n ≤ c ∧ n ≤ 16384 ∧ X.getD 0 0 = x ∧ X.getD 1 0 = y ∧ U8 x ∧ U8 y ∧ w.cell? ⟨b, off, none⟩ = some (.int .u8 x) ∧ w.cell? ⟨b, off + 1, none⟩ = some (.int .u8 y) := by
  obtain ⟨a, c, rfl, hc, hx⟩ := hX
  by_cases h : X.length < 2
  · exact .inl ⟨a, _, c, rfl, rfl, h⟩
  · right
    rcases hx with hx | ⟨b, off, rfl, hb, hr⟩
    · rw [hx] at h; simp at h
    · exact ⟨b, off, _, c, _, _, rfl, rfl, by omega, hc, hl, rfl, rfl, uX.at 0, uX.at 1, hr 0 (by omega), hr 1 (by omega)⟩
set_option maxHeartbeats 2000000 in
theorem isInt_any {w : World} (v : Value) (X : List Int) (hX : Sl .u8 w v X) (uX : U8s X) (hl : X.length ≤ 16384) :
    Calls Tryz.prog 117 #[v] w fun e w' => e = .returned (.bool (intOk X)) ∧ w = w' := by
  rcases int_cases hX uX hl with ⟨a, n, c, rfl, hn, h1⟩ | ⟨b, off, n, c, x, y, rfl, hn, h2, hc, hn4, ex, ey, ⟨u0, u1⟩, ⟨y0, y1⟩, c0, c1⟩
  · have HV : Hid (intOk X = decide (n = 1)) := by
      show intOk X = _
      unfold intOk; rw [hn, if_pos h1]
    have hI : (n : Int) < 2 := by omega
    clear hX uX hn
    by_cases h : n = 1
    · subst h
      clear h1 hI
      go_enter Tryz.func117, Tryz.ntmps117
      go_wp2
      go_ret
      exact ⟨by rw [HV.out]; rfl, rfl⟩
    · have h0 : n = 0 := by omega
      subst h0
      clear h1 hI h
      go_enter Tryz.func117, Tryz.ntmps117
      go_wp2
      go_ret
      exact ⟨by rw [HV.out]; rfl, rfl⟩
  · have HV : Hid (intOk X = !((decide (x = 0) && decide (y < 128)) || (decide (x = 255) && decide (128 ≤ y)))) := by
      show intOk X = _
      unfold intOk; rw [hn, if_neg (by omega), ex, ey]
    have hI : (2 : Int) ≤ (n : Int) := by omega
    have hI1 : (1 : Int) < (n : Int) := by omega
    have hI2 : ¬ (n : Int) < 2 := by omega
    have hI3 : ((n : Int) == 1) = false := by simp; omega
    clear hX uX hn ex ey
    by_cases hy : y < 128
    · have q1 : decide (128 ≤ y) = false := by simp; omega
      have q2 : decide (y < 128) = true := by simp; omega
      have q3 : ¬ 128 ≤ y := by omega
      by_cases hx0 : x = 0
      · subst hx0
        have HW : Hid (intOk X = false) := by show _ = _; rw [HV.out]; simp; omega
        go_enter Tryz.func117, Tryz.ntmps117
        go_wp2
        all_goals go_ret
        all_goals exact ⟨by rw [HW.out]; rfl, rfl⟩
      by_cases hx1 : x = 255
      · subst hx1
        have HW : Hid (intOk X = true) := by show _ = _; rw [HV.out]; simp; omega
        clear hx0
        go_enter Tryz.func117, Tryz.ntmps117
        go_wp2
        all_goals go_ret
        all_goals exact ⟨by rw [HW.out]; rfl, rfl⟩
      · have HW : Hid (intOk X = true) := by show _ = _; rw [HV.out, decide_eq_false hx0, decide_eq_false hx1]; rfl
        have b0 : (x == 0) = false := by simpa using hx0
        have b1 : (x == 255) = false := by simpa using hx1
        clear hx0 hx1
        go_enter Tryz.func117, Tryz.ntmps117
        go_wp2
        all_goals go_ret
        all_goals exact ⟨by rw [HW.out]; rfl, rfl⟩
    · have q1 : decide (128 ≤ y) = true := by simp; omega
      have q2 : decide (y < 128) = false := by simp; omega
      have q3 : 128 ≤ y := by omega
      by_cases hx0 : x = 0
      · subst hx0
        have HW : Hid (intOk X = true) := by show _ = _; rw [HV.out]; simp; omega
        go_enter Tryz.func117, Tryz.ntmps117
        go_wp2
        all_goals go_ret
        all_goals exact ⟨by rw [HW.out]; rfl, rfl⟩
      by_cases hx1 : x = 255
      · subst hx1
        have HW : Hid (intOk X = false) := by show _ = _; rw [HV.out]; simp; omega
        clear hx0
        go_enter Tryz.func117, Tryz.ntmps117
        go_wp2
        all_goals go_ret
        all_goals exact ⟨by rw [HW.out]; rfl, rfl⟩
      · have HW : Hid (intOk X = true) := by show _ = _; rw [HV.out, decide_eq_false hx0, decide_eq_false hx1]; rfl
        have b0 : (x == 0) = false := by simpa using hx0
        have b1 : (x == 255) = false := by simpa using hx1
        clear hx0 hx1
        go_enter Tryz.func117, Tryz.ntmps117
        go_wp2
        all_goals go_ret
        all_goals exact ⟨by rw [HW.out]; rfl, rfl⟩
set_option maxHeartbeats 2000000 in
theorem whole_any {w : World} (v : Value) (X : List Int) (hX : Sl .u8 w v X) (uX : U8s X) (hl : X.length ≤ 16384) :
    Calls Tryz.prog 60 #[v] w fun e w' => e = .returned (.bool (intOk X)) ∧ w = w' := by
  rcases int_cases hX uX hl with ⟨a, n, c, rfl, hn, h1⟩ | ⟨b, off, n, c, x, y, rfl, hn, h2, hc, hn4, ex, ey, ⟨u0, u1⟩, ⟨y0, y1⟩, c0, c1⟩
  · have HV : Hid (intOk X = decide (n = 1)) := by
      show intOk X = _
      unfold intOk; rw [hn, if_pos h1]
    have hI : (n : Int) < 2 := by omega
    clear hX uX hn
    by_cases h : n = 1
    · subst h
      clear h1 hI
      go_enter Tryz.func60, Tryz.ntmps60
      go_wp2
      go_ret
      exact ⟨by rw [HV.out]; rfl, rfl⟩
    · have h0 : n = 0 := by omega
      subst h0
      clear h1 hI h
      go_enter Tryz.func60, Tryz.ntmps60
      go_wp2
      go_ret
      exact ⟨by rw [HV.out]; rfl, rfl⟩
  · have HV : Hid (intOk X = !((decide (x = 0) && decide (y < 128)) || (decide (x = 255) && decide (128 ≤ y)))) := by
      show intOk X = _
      unfold intOk; rw [hn, if_neg (by omega), ex, ey]
    have hI : (2 : Int) ≤ (n : Int) := by omega
    have hI1 : (1 : Int) < (n : Int) := by omega
    have hI2 : ¬ (n : Int) < 2 := by omega
    have hI3 : ((n : Int) == 1) = false := by simp; omega
    clear hX uX hn ex ey
    by_cases hy : y < 128
    · have q1 : decide (128 ≤ y) = false := by simp; omega
      have q2 : decide (y < 128) = true := by simp; omega
      have q3 : ¬ 128 ≤ y := by omega
      by_cases hx0 : x = 0
      · subst hx0
        have HW : Hid (intOk X = false) := by show _ = _; rw [HV.out]; simp; omega
        go_enter Tryz.func60, Tryz.ntmps60
        go_wp2
        all_goals go_ret
        all_goals exact ⟨by rw [HW.out]; rfl, rfl⟩
      by_cases hx1 : x = 255
      · subst hx1
        have HW : Hid (intOk X = true) := by show _ = _; rw [HV.out]; simp; omega
        clear hx0
        go_enter Tryz.func60, Tryz.ntmps60
        go_wp2
        all_goals go_ret
        all_goals exact ⟨by rw [HW.out]; rfl, rfl⟩
      · have HW : Hid (intOk X = true) := by show _ = _; rw [HV.out, decide_eq_false hx0, decide_eq_false hx1]; rfl
        have b0 : (x == 0) = false := by simpa using hx0
        have b1 : (x == 255) = false := by simpa using hx1
        clear hx0 hx1
        go_enter Tryz.func60, Tryz.ntmps60
        go_wp2
        all_goals go_ret
        all_goals exact ⟨by rw [HW.out]; rfl, rfl⟩
    · have q1 : decide (128 ≤ y) = true := by simp; omega
      have q2 : decide (y < 128) = false := by simp; omega
      have q3 : 128 ≤ y := by omega
      by_cases hx0 : x = 0
      · subst hx0
        have HW : Hid (intOk X = true) := by show _ = _; rw [HV.out]; simp; omega
        go_enter Tryz.func60, Tryz.ntmps60
        go_wp2
        all_goals go_ret
        all_goals exact ⟨by rw [HW.out]; rfl, rfl⟩
      by_cases hx1 : x = 255
      · subst hx1
        have HW : Hid (intOk X = false) := by show _ = _; rw [HV.out]; simp; omega
        clear hx0
        go_enter Tryz.func60, Tryz.ntmps60
        go_wp2
        all_goals go_ret
        all_goals exact ⟨by rw [HW.out]; rfl, rfl⟩
      · have HW : Hid (intOk X = true) := by show _ = _; rw [HV.out, decide_eq_false hx0, decide_eq_false hx1]; rfl
        have b0 : (x == 0) = false := by simpa using hx0
        have b1 : (x == 255) = false := by simpa using hx1
        clear hx0 hx1
        go_enter Tryz.func60, Tryz.ntmps60
        go_wp2
        all_goals go_ret
        all_goals exact ⟨by rw [HW.out]; rfl, rfl⟩
end Go.Proofs.YtillkhjihggcjaaGreatDoor
/-
  Der: any bytes as a small number.
-/
namespace Go.Proofs.YtillkhjihggcjaaGreatDoor
open Go.RowKit
/-- The number of the first i bytes, the first bit being its sign. -/
def iv (X : List Int) : Nat → Int
  | 0 => if 128 ≤ X.getD 0 0 then -1 else 0
  | i + 1 => 256 * iv X i + X.getD i 0
theorem iv_bd {X : List Int} (hU : U8s X) : ∀ i, -(128 * ((256 ^ i : Nat) : Int)) ≤ iv X (i + 1) ∧ iv X (i + 1) < 128 * ((256 ^ i : Nat) : Int)
  | 0 => by
    have h := hU.at 0
    unfold U8 at h
    show -(128 * ((1 : Nat) : Int)) ≤ 256 * (if 128 ≤ X.getD 0 0 then -1 else 0) + X.getD 0 0 ∧ 256 * (if 128 ≤ X.getD 0 0 then -1 else 0) + X.getD 0 0 < 128 * ((1 : Nat) : Int)
    split <;> omega
  | i + 1 => by
    have h := hU.at (i + 1)
    unfold U8 at h
    have h2 := iv_bd hU i
    rw [Nat.pow_succ]
    obtain ⟨P, hP⟩ : ∃ P, 256 ^ i = P := ⟨_, rfl⟩
    rw [hP] at h2 ⊢
    show _ ≤ 256 * iv X (i + 1) + X.getD (i + 1) 0 ∧ 256 * iv X (i + 1) + X.getD (i + 1) 0 < _
    omega
theorem iv_small {X : List Int} (hU : U8s X) (i : Nat) (hi : i ≤ 6) : -36028797018963968 ≤ iv X (i + 1) ∧ iv X (i + 1) < 36028797018963968 := by
  have h := iv_bd hU i
  have h2 : 256 ^ i ≤ 256 ^ 6 := Nat.pow_le_pow_right (by decide) hi
  omega
theorem iv_range {X : List Int} (hU : U8s X) (i : Nat) (hi : i ≤ 7) : -9223372036854775808 ≤ iv X (i + 1) ∧ iv X (i + 1) < 9223372036854775808 := by
  have h := iv_bd hU i
  have h2 : 256 ^ i ≤ 256 ^ 7 := Nat.pow_le_pow_right (by decide) hi
  omega
theorem or_s64 (t x : Int) (h0 : -36028797018963968 ≤ t) (h1 : t < 36028797018963968) (x0 : 0 ≤ x) (x1 : x < 256) : bits .or .i64 (t * 256) x = t * 256 + x := by
  obtain ⟨b, rfl⟩ := Int.eq_ofNat_of_zero_le x0
  obtain ⟨m, hm⟩ : ∃ m : Nat, (m : Int) = t % 72057594037927936 := ⟨(t % 72057594037927936).toNat, by omega⟩
  have e1 : (BitVec.ofInt 64 (t * 256)).toNat = m * 256 := by
    rw [BitVec.toNat_ofInt]
    have : t * 256 % ((2 ^ 64 : Nat) : Int) = ((m * 256 : Nat) : Int) := by
      have : ((2 ^ 64 : Nat) : Int) = 18446744073709551616 := by decide
      rw [this]; omega
    rw [this]; rfl
  have e2 : (BitVec.ofInt 64 ((b : Nat) : Int)).toNat = b := by
    rw [BitVec.ofInt_natCast, BitVec.toNat_ofNat]
    exact Nat.mod_eq_of_lt (by omega)
  have hb : b < 2 ^ 8 := by omega
  show IntKind.i64.wrap ((BitVec.ofInt 64 (t * 256) ||| BitVec.ofInt 64 ((b : Nat) : Int)).toNat : Int) = _
  rw [BitVec.toNat_or, e1, e2, show m * 256 = 2 ^ 8 * m by omega, ← Nat.two_pow_add_eq_or_of_lt hb m, IntKind.wrap_i64]
  have : ((2 ^ 8 * m + b : Nat) : Int) = 256 * (m : Int) + b := by omega
  rw [this]
  omega
theorem wrap_i8 (x : Int) : IntKind.i8.wrap x = (x + 128) % 256 - 128 := by
  simp [IntKind.wrap, IntKind.bits, IntKind.signed]
  omega
def intV (X : List Int) : Int := if intOk X = true ∧ X.length ≤ 8 then iv X X.length else 0
def intE (X : List Int) : Int := if intOk X = false then 6 else if 8 < X.length then 3 else 0
theorem intOk_ne {X : List Int} (h : intOk X = true) : 1 ≤ X.length := by
  cases X with
  | nil => simp [intOk] at h
  | cons x X => simp
set_option maxRecDepth 20000 in
set_option maxHeartbeats 4000000 in
theorem Int_any {w : World} (v : Value) (X : List Int) (hX : Sl .u8 w v X) (uX : U8s X) (hl : X.length ≤ 16384) :
    Calls Tryz.prog 114 #[v] w fun e w' => e = .returned (.tuple #[.int .i64 (intV X), .int .i64 (intE X)]) ∧ w = w' := by
  have HI : Hid (Calls Tryz.prog 117 #[v] w fun e w' => e = .returned (.bool (intOk X)) ∧ w = w') := isInt_any v X hX uX hl
  obtain ⟨a, c, rfl, hc, hx⟩ := hX
  obtain ⟨n, hn⟩ : ∃ n, X.length = n := ⟨_, rfl⟩
  rw [hn] at HI hc ⊢
  cases hok : intOk X with
  | false =>
    have HV : Hid (intV X = 0 ∧ intE X = 6) := ⟨by unfold intV; rw [hok]; simp, by unfold intE; rw [hok]; simp⟩
    rw [hok] at HI
    clear hx hok
    go_enter Tryz.func114, Tryz.ntmps114
    go_wp2_with fail
    refine HI.out.mono ?_
    rintro e w1 ⟨rfl, rfl⟩
    go_wp2
    go_ret2
    exact ⟨by rw [HV.out.1, HV.out.2]; rfl, rfl⟩
  | true =>
    have hne := intOk_ne hok
    rw [hok] at HI
    rcases hx with hx | ⟨b, off, rfl, hb, hr⟩
    · rw [hx] at hne; simp at hne
    by_cases hbig : 8 < n
    · have HV : Hid (intV X = 0 ∧ intE X = 3) := ⟨by unfold intV; rw [if_neg (fun h => by have := h.2; omega)], by unfold intE; rw [hok, hn]; simp [hbig]⟩
      have hbI : (8 : Int) < (n : Int) := by omega
      clear hr hok
      go_enter Tryz.func114, Tryz.ntmps114
      go_wp2_with fail
      refine HI.out.mono ?_
      rintro e w1 ⟨rfl, rfl⟩
      go_wp2
      go_ret2
      exact ⟨by rw [HV.out.1, HV.out.2]; rfl, rfl⟩
    · have HV : Hid (intV X = iv X n ∧ intE X = 0) := ⟨by unfold intV; rw [if_pos ⟨hok, by omega⟩, hn], by unfold intE; rw [hok, hn]; simp [hbig]⟩
      have hbI : ¬ (8 : Int) < (n : Int) := by omega
      rw [hn] at hne
      have hneI : (1 : Int) ≤ (n : Int) := by omega
      have hneI2 : (0 : Int) < (n : Int) := by omega
      obtain ⟨x, hx⟩ : ∃ x, X.getD 0 0 = x := ⟨_, rfl⟩
      have cx : w.cell? ⟨b, off, none⟩ = some (.int .u8 x) := by have := hr 0 (by omega); rw [hx] at this; exact this
      have ux := uX.at 0
      rw [hx] at ux
      obtain ⟨x0, x1⟩ := ux
      obtain ⟨t0, ht0⟩ : ∃ t0, iv X 1 = t0 := ⟨_, rfl⟩
      have hsm := iv_small uX 0 (by omega)
      rw [ht0] at hsm
      have e8 : IntKind.i8.wrap x = t0 := by
        rw [← ht0]
        show _ = 256 * (if 128 ≤ X.getD 0 0 then -1 else 0) + X.getD 0 0
        rw [hx, wrap_i8]
        split <;> omega
      have ew : wrap64 t0 = t0 := by unfold wrap64; omega
      have HX : Hid (Rd .u8 w b off X ∧ U8s X ∧ X.length = n ∧ iv X 1 = t0) := ⟨hr, uX, hn, ht0⟩
      obtain ⟨ba, hba⟩ : ∃ ba : Option Addr, (if c = 1 then some ⟨b, off, none⟩ else some ⟨b, off + 1, none⟩) = ba := ⟨_, rfl⟩
      have HBA : Hid (1 < n → ba = some ⟨b, off + 1, none⟩) := by intro h; rw [← hba, if_neg (by omega)]
      obtain ⟨n2, hn2⟩ : ∃ n2, n - 1 = n2 := ⟨_, rfl⟩
      have hcI : (1 : Int) ≤ (c : Int) := by omega
      clear hr hok uX hx ht0 hsm hl
      go_enter Tryz.func114, Tryz.ntmps114
      go_wp2_with fail
      refine HI.out.mono ?_
      rintro e w1 ⟨rfl, rfl⟩
      go_wp2_with fail
      go_loopw [4, 21] (fun nv iv' wr => ∃ (i : Nat) (t : Int), nv = .int .i64 t ∧ iv' = .int .i64 i ∧ i ≤ n2 ∧ iv X (i + 1) = t ∧ w = wr) (fun _ iv' _ => n2 - (intOf iv').toNat)
      case atStart => exact ⟨0, t0, by rw [ew], rfl, by omega, HX.out.2.2.2, rfl⟩
      case round =>
        obtain ⟨i, t, rfl, rfl, hi, ht, rfl⟩ := hrel
        have HT : Hid (iv X (i + 1) = t) := ht
        clear ht
        by_cases hlt : i < n2
        · have l1 : (i : Int) < (n2 : Int) := by omega
          have hba2 := HBA.out (by omega)
          subst hba2
          obtain ⟨y, hy⟩ : ∃ y, X.getD (i + 1) 0 = y := ⟨_, rfl⟩
          have cy : w.cell? ⟨b, off + 1 + i, none⟩ = some (.int .u8 y) := by
            have := HX.out.1 (i + 1) (by have := HX.out.2.2.1; omega)
            rw [hy, show off + (i + 1) = off + 1 + i by omega] at this; exact this
          have uy := HX.out.2.1.at (i + 1)
          rw [hy] at uy
          obtain ⟨y0, y1⟩ := uy
          have hs := iv_small HX.out.2.1 i (by omega)
          rw [HT.out] at hs
          have e2 := or_s64 t y hs.1 hs.2 y0 (by omega)
          have ew2 : wrap64 (t * 256) = t * 256 := by unfold wrap64; omega
          obtain ⟨t2, ht2⟩ : ∃ t2, t * 256 + y = t2 := ⟨_, rfl⟩
          rw [ht2] at e2
          have HT2 : Hid (iv X (i + 1 + 1) = t2) := by
            show 256 * iv X (i + 1) + X.getD (i + 1) 0 = _
            rw [HT.out, hy]; omega
          clear hs hy ht2
          go_wp2
          go_roundw
          case rel => exact ⟨i + 1, t2, rfl, by go_num, by omega, HT2.out, trivial⟩
          case measure => simp [intOf]; omega
        · obtain rfl : i = n2 := by omega
          have l1 : ¬ (i : Int) < (i : Int) := by omega
          go_wp2
          go_ret2
          exact ⟨by rw [HV.out.1, HV.out.2, show n = i + 1 by omega, HT.out]; rfl, rfl⟩
end Go.Proofs.YtillkhjihggcjaaGreatDoor
/-
  Alg: what names an algorithm, over elements; no Go text in sight.
-/
namespace Go.Proofs.YtillkhjihggcjaaGreatDoor
open Go.RowKit
/-- What Oid tells, as a function. -/
def oidF (X : List Int) : List Int × Int :=
  if (∀ j, j < X.length → ¬ (btw X j = true ∧ X.getD j 0 = 128)) ∧ arcsOk X = true then (if oidLong (gst X X.length).1 = true then ([], 3) else (oidS (gst X X.length).1, 0)) else ([], 6)
theorem oidF_of {X s : List Int} {er : Int} (h : OidR X s er) : s = (oidF X).1 ∧ er = (oidF X).2 := by
  unfold oidF
  rcases h with ⟨h1, rfl, rfl⟩ | ⟨h1, h2, rfl, rfl⟩ | ⟨h1, h2, rfl, rfl⟩
  · rw [if_neg (show ¬ ((∀ j, j < X.length → ¬ (btw X j = true ∧ X.getD j 0 = 128)) ∧ arcsOk X = true) from h1)]; exact ⟨rfl, rfl⟩
  · rw [if_pos (show (∀ j, j < X.length → ¬ (btw X j = true ∧ X.getD j 0 = 128)) ∧ arcsOk X = true from h1), if_pos h2]; exact ⟨rfl, rfl⟩
  · rw [if_pos (show (∀ j, j < X.length → ¬ (btw X j = true ∧ X.getD j 0 = 128)) ∧ arcsOk X = true from h1), if_neg (by rw [h2]; decide)]; exact ⟨rfl, rfl⟩
theorem spl_good {M : List Int} (hM : U8s M) : ∀ f p L, M.length - p = f → (∀ y ∈ L, y.d.length ≤ M.length ∧ U8s y.d ∧ 0 ≤ y.tg) → ∀ L', spl M p L = .inr L' → ∀ y ∈ L', y.d.length ≤ M.length ∧ U8s y.d ∧ 0 ≤ y.tg := by
  intro f
  induction f using Nat.strongRecOn with
  | _ f ih =>
    intro p L hf hy L' h
    by_cases hp : p < M.length
    · by_cases hL2 : L.length < 65536
      · cases hE : elemS M p with
        | inl pq => obtain ⟨e', a'⟩ := pq; rw [spl_bad hp hL2 hE] at h; cases h
        | inr pq =>
          obtain ⟨t, j, E⟩ := pq
          have := elemS_ok hM hp hE
          rw [spl_ok hM hp hL2 hE] at h
          refine ih (M.length - E) (by omega) E _ rfl ?_ L' h
          intro y hy'
          rcases List.mem_append.1 hy' with hy' | hy'
          · exact hy y hy'
          · rw [List.mem_singleton] at hy'
            subst hy'
            refine ⟨?_, ?_, this.2.2.2.1⟩
            · show ((M.drop j).take (E - j)).length ≤ _; rw [List.length_take, List.length_drop]; omega
            · exact (hM.drop j).take _
      · rw [spl_many hp (by omega)] at h; cases h
    · rw [spl_end (by omega)] at h; cases h; exact hy
theorem splitS_good {M : List Int} (hM : U8s M) {L : List El} (h : splitS M = .inr L) : ∀ y ∈ L, y.d.length ≤ M.length ∧ U8s y.d ∧ 0 ≤ y.tg := by
  unfold splitS at h
  split at h
  · cases h
  · exact spl_good hM _ 0 [] rfl (by simp) L h
/-- Universal, not made of others, of that tag. -/
def isP (x : El) (t : Int) : Bool := x.cl == 0 && x.tg == t && !x.co
/-- What a row is made of. -/
def rowO : Sp → Option (List El)
  | .inl _ => none
  | .inr L => some L
def rowS (x : El) : Option (List El) := if (x.cl == 0 && x.tg == 16 && x.co) = true then rowO (splitS x.d) else none
/-- A text that an Oid tells; false: there is none. -/
def oidO (x : El) : Option ByteArray := if isP x 6 = true ∧ (oidF x.d).2 = 0 then some (strOfNums (oidF x.d).1) else none
def idC (rest : List El) : Option ByteArray → Option (ByteArray × List El)
  | none => none
  | some s => some (s, rest)
def idL : List El → Option (ByteArray × List El)
  | [a] => idC [] (oidO a)
  | [a, b] => idC [b] (oidO a)
  | _ => none
def idO : Option (List El) → Option (ByteArray × List El)
  | none => none
  | some L => idL L
/-- What names an algorithm: its Oid's text, its rest. -/
def idS (x : El) : Option (ByteArray × List El) := idO (rowS x)
def vdB : List El → Bool
  | [] => true
  | b :: _ => isP b 5 && b.d.isEmpty
/-- Which digest a text names; 0: none. -/
def dgN (S : ByteArray) : Int := if (S.toList == [49, 46, 51, 46, 49, 52, 46, 51, 46, 50, 46, 50, 54]) = true then 1 else if (S.toList == [50, 46, 49, 54, 46, 56, 52, 48, 46, 49, 46, 49, 48, 49, 46, 51, 46, 52, 46, 50, 46, 49]) = true then 2 else if (S.toList == [50, 46, 49, 54, 46, 56, 52, 48, 46, 49, 46, 49, 48, 49, 46, 51, 46, 52, 46, 50, 46, 50]) = true then 3 else if (S.toList == [50, 46, 49, 54, 46, 56, 52, 48, 46, 49, 46, 49, 48, 49, 46, 51, 46, 52, 46, 50, 46, 51]) = true then 4 else 0
def digO : Option (ByteArray × List El) → Int
  | none => 0
  | some (s, rest) => if vdB rest = true then dgN s else 0
def digS (x : El) : Int := digO (idS x)
end Go.Proofs.YtillkhjihggcjaaGreatDoor
/-
  Alg: the two kinds of faults; errors.Is of them.
-/
namespace Go.Proofs.YtillkhjihggcjaaGreatDoor
open Go.RowKit Go.Extern.Stop Go.Stop Go.Extern
theorem Tryz.isTypeOf (v : Value) (w : World) : (Extern.ReflectliteType.typeOf #[.iface 236 v]).run Tryz.prog w = .ok (.iface 167 (.agg #[.pointer (some ⟨5, 236, none⟩)])) w := by kernel_rfl
theorem Tryz.isComparable (w : World) : ((Extern.ReflectliteType.method fun t => do Rtype.noPackHeld "Comparable" t; pure (.bool (← typeInfo t).comparable)) #[.agg #[.pointer (some ⟨5, 236, none⟩)]]).run Tryz.prog w = .ok (.bool true) w := by kernel_rfl
theorem Tryz.isMethodComparable (v : Value) (w : World) : (Go.method 378 167 v "Comparable").run Tryz.prog w = .ok (191, v) w := by kernel_rfl
theorem Tryz.isComp : (Tryz.prog.info? 236).map (·.comparable) = some true := by kernel_rfl
theorem Tryz.isSize : (Tryz.prog.info? 263).map (·.size) = some 1 := by kernel_rfl
theorem Tryz.noIsE (v : Value) (xT : TypeId) (w : World) : (Instr.typeAssert (.iface 236 v) xT 169 true).run Tryz.prog w = .ok (.tuple #[.nilIface, .bool false]) w := run_typeAssert_lacksB Tryz.underlying169 (by kernel_rfl) (by kernel_rfl) v xT w
theorem Tryz.noUnwrapE (v : Value) (xT : TypeId) (w : World) : (Instr.typeAssert (.iface 236 v) xT 172 true).run Tryz.prog w = .ok (.tuple #[.nilIface, .bool false]) w := run_typeAssert_lacksB Tryz.underlying172 (by kernel_rfl) (by kernel_rfl) v xT w
theorem Tryz.noUnwrapsE (v : Value) (xT : TypeId) (w : World) : (Instr.typeAssert (.iface 236 v) xT 174 true).run Tryz.prog w = .ok (.tuple #[.nilIface, .bool false]) w := run_typeAssert_lacksB Tryz.underlying174 (by kernel_rfl) (by kernel_rfl) v xT w
theorem Tryz.noIsF (v : Value) (xT : TypeId) (w : World) : (Instr.typeAssert (.iface 129 v) xT 169 true).run Tryz.prog w = .ok (.tuple #[.nilIface, .bool false]) w := run_typeAssert_lacksB Tryz.underlying169 (by kernel_rfl) (by kernel_rfl) v xT w
theorem Tryz.hasUnwrapF (v : Value) (xT : TypeId) (w : World) : (Instr.typeAssert (.iface 129 v) xT 172 true).run Tryz.prog w = .ok (.tuple #[.iface 129 v, .bool true]) w := run_typeAssert_hasB Tryz.underlying172 (by kernel_rfl) v xT w
theorem Tryz.methodUnwrap (v : Value) (w : World) : (Go.method 378 129 v "Unwrap").run Tryz.prog w = .ok (186, v) w := by kernel_rfl
def erV (a : Addr) : Value := .iface 236 (.pointer (some a))
def flV (a : Addr) (s : ByteArray) : Value := .iface 129 (.agg #[.string s, erV a])
/-- The package's two errors lie where they were laid. -/
structure Glb (w : World) (an ak : Addr) : Prop where
  n : w.cell? ⟨0, 0, none⟩ = some (erV an)
  k : w.cell? ⟨1, 0, none⟩ = some (erV ak)
  ne : ak ≠ an
  hn : ∃ c t, w.heap[an.block]? = some (.cells c t (0, 0))
  hk : ∃ c t, w.heap[ak.block]? = some (.cells c t (0, 0))
  ln : 0 < w.heap.size
  lk : 1 < w.heap.size
theorem Glb.below {w w' : World} {an ak : Addr} (h : Glb w an ak) (hb : Below w.heap.size w w') : Glb w' an ak := by
  have lt : ∀ {b : Nat} {o : Obj}, w.heap[b]? = some o → b < w.heap.size := fun h => (Array.getElem?_eq_some_iff.1 h).1
  refine ⟨(hb.cell (p := ⟨0, 0, none⟩) h.ln).trans h.n, (hb.cell (p := ⟨1, 0, none⟩) h.lk).trans h.k, h.ne, ?_, ?_, Nat.lt_of_lt_of_le h.ln hb.size, Nat.lt_of_lt_of_le h.lk hb.size⟩
  · obtain ⟨c, t, h1⟩ := h.hn
    exact ⟨c, t, (hb.block _ (lt h1)).trans h1⟩
  · obtain ⟨c, t, h1⟩ := h.hk
    exact ⟨c, t, (hb.block _ (lt h1)).trans h1⟩
theorem none_any {w : World} {an ak : Addr} (hG : Glb w an ak) (s : ByteArray) : Calls Tryz.prog 49 #[.string s] w fun e w' => e = .returned (flV an s) ∧ w = w' := by
  have h0 := hG.n
  unfold erV at h0
  clear hG
  unfold flV erV
  go_enter Tryz.func49, Tryz.ntmps49
  go_wp2
  go_ret
  exact ⟨rfl, rfl⟩
theorem noKey_any {w : World} {an ak : Addr} (hG : Glb w an ak) (s : ByteArray) : Calls Tryz.prog 78 #[.string s] w fun e w' => e = .returned (flV ak s) ∧ w = w' := by
  have h0 := hG.k
  unfold erV at h0
  clear hG
  unfold flV erV
  go_enter Tryz.func78, Tryz.ntmps78
  go_wp2
  go_ret
  exact ⟨rfl, rfl⟩
theorem unwrap_any {w : World} (a : Addr) (s : ByteArray) : Calls Tryz.prog 186 #[.agg #[.string s, erV a]] w fun e w' => e = .returned (erV a) ∧ Below w.heap.size w w' := by
  unfold erV
  go_enter Tryz.func186, Tryz.ntmps186
  go_wp2
  go_ret
  exact ⟨rfl, al1 _⟩
end Go.Proofs.YtillkhjihggcjaaGreatDoor
