/-
  Der: decimal digits of any number appended; an object identifier of any bytes.
-/
import Derived.Lib.ItoaLen
import Derived.Test.YtillkhjihggcjaaGreatDoorK37
namespace Go.Proofs.YtillkhjihggcjaaGreatDoor
open Go.RowKit
abbrev P10 (w : World) : Prop := Lib.TabIs Tryz.prog w "internal/strconv.uint64pow10" .u64 Lib.pow10Tab
theorem Tryz.g_pw : Tryz.prog.globalNamed "internal/strconv.uint64pow10" = some 2 := by kernel_rfl
theorem P10.below {w w' : World} (h : P10 w) (hb : Below w.heap.size w w') : P10 w' := by
  have hc := h.cell Tryz.g_pw 0 (by decide)
  have hlt : 2 < w.heap.size := by
    rcases Nat.lt_or_ge 2 w.heap.size with h' | h'
    · exact h'
    · unfold World.cell? at hc
      rw [Array.getElem?_eq_none h'] at hc
      cases hc
  unfold P10 Lib.TabIs World.var? at *
  rw [Tryz.g_pw] at h ⊢
  rw [← h]
  simp only [Option.bind_some]
  rw [hb.block _ hlt]
/-- The digits of a number, as integers. -/
def decI (u : Nat) : List Int := (Lib.decDigits u).map fun b => (b.toNat : Int)
theorem MRow.own {B : Nat} {w : World} {v : Value} {n : Nat} {xs : List Value} (h : MRow 1 5 B w v n xs) : w.ownsRow B 5 1 v n xs := by
  obtain ⟨h0, h⟩ := h
  refine ⟨h0, ?_⟩
  rcases h with h | ⟨b, S, c, rfl, h1, hA, h2, h3, h4, h5⟩
  · exact .inl h
  · exact .inr ⟨b, c, S.toArray, rfl, h1, hA, h3, h5, by simpa using h2, by simpa using h4⟩
theorem MRow.ofOwn {B : Nat} {w : World} {v : Value} {n : Nat} {xs : List Value} (h : w.ownsRow B 5 1 v n xs) : MRow 1 5 B w v n xs := by
  obtain ⟨h0, h⟩ := h
  refine ⟨h0, ?_⟩
  rcases h with h | ⟨b, c, cur, rfl, h1, hA, h3, h5, h2, h4⟩
  · exact .inl h
  · exact .inr ⟨b, cur.toList, c, rfl, h1, by unfold Blk; simpa using hA, by simpa using h2, h3, h4, h5⟩
theorem decI_cells (u : Nat) : Lib.byteCells (Lib.decDigits u) = (decI u).map (Value.int .u8) := by
  unfold Lib.byteCells decI; rw [List.map_map]; rfl
theorem decI_len (u : Nat) : (decI u).length = (Lib.decDigits u).length := by unfold decI; rw [List.length_map]
set_option maxHeartbeats 1000000 in
theorem AppU_any {w : World} (v : Value) (B u : Nat) (X : List Int) (hX : MRow 1 5 B w v X.length (X.map (Value.int .u8))) (hu : u < 18446744073709551616) (hl : X.length ≤ 1000000) (hB : B ≤ w.heap.size) (hT : P10 w) :
    Calls Tryz.prog 113 #[v, .int .u64 u, .int .i64 10] w fun e w' => ∃ r, e = .returned r ∧ MRow 1 5 B w' r (X ++ decI u).length ((X ++ decI u).map (Value.int .u8)) ∧ Below B w w' := by
  have HC : Hid (Calls Tryz.prog 130 #[v, .int .u64 u, .int .i64 10] w fun e w' => ∃ r, e = .returned r ∧ MRow 1 5 B w' r (X ++ decI u).length ((X ++ decI u).map (Value.int .u8)) ∧ Below B w w') := by
    refine (Tryz.internal_strconv_AppendUint_10 B X.length u hu v _ w hX.own hB (by omega) hT).mono ?_
    rintro e w' ⟨r, rfl, ho, hb, _⟩
    refine ⟨r, rfl, ?_, hb⟩
    have := MRow.ofOwn ho
    rw [decI_cells] at this
    rw [List.length_append, decI_len, List.map_append]
    exact this
  clear hX hT
  go_enter Tryz.func113, Tryz.ntmps113
  go_wp2_with fail
  refine HC.out.mono ?_
  rintro e w1 ⟨r, rfl, hr, hb⟩
  go_wp2
  go_ret
  exact ⟨_, rfl, hr, hb⟩
end Go.Proofs.YtillkhjihggcjaaGreatDoor
/-
  Der: an object identifier of any bytes.
-/
namespace Go.Proofs.YtillkhjihggcjaaGreatDoor
open Go.RowKit
def oidX (v : Nat) : Nat := min (v / 40) 2
def oidT : List Nat → List Nat
  | [] => []
  | v :: A => (v - 40 * oidX v) :: A
def oidJ (T : List Nat) : List Int := T.flatMap fun v => 46 :: decI v
def oidS (A : List Nat) : List Int := decI (oidX (A.headD 0)) ++ oidJ (oidT A)
def oidLong (A : List Nat) : Bool := (oidT A).any fun v => decide (2147483647 < v)
/-- What Oid tells: the text and the error. -/
def OidR (X : List Int) (s : List Int) (er : Int) : Prop :=
  (¬ (fine X X.length ∧ arcsOk X = true) ∧ s = [] ∧ er = 6) ∨ ((fine X X.length ∧ arcsOk X = true) ∧ oidLong (gst X X.length).1 = true ∧ s = [] ∧ er = 3)
    ∨ ((fine X X.length ∧ arcsOk X = true) ∧ oidLong (gst X X.length).1 = false ∧ s = oidS (gst X X.length).1 ∧ er = 0)
theorem decI_le (u : Nat) (h : u < 18446744073709551616) : (decI u).length ≤ 20 := by
  rw [decI_len, Lib.decDigits_length]
  exact Lib.nDigits_le20 u h
theorem oidJ_snoc (T : List Nat) (i : Nat) (hi : i < T.length) : oidJ (T.take (i + 1)) = oidJ (T.take i) ++ (46 :: decI (T.getD i 0)) := by
  rw [List.take_succ_eq_append_getElem hi]
  unfold oidJ
  rw [List.flatMap_append, List.getD_eq_getElem?_getD, List.getElem?_eq_getElem hi]
  simp
theorem oidJ_len : ∀ T : List Nat, (∀ v ∈ T, v < 18446744073709551616) → (oidJ T).length ≤ 21 * T.length
  | [], _ => by simp [oidJ]
  | v :: T, h => by
    have h1 := oidJ_len T (fun x hx => h x (by simp [hx]))
    have h2 := decI_le v (h v (by simp))
    have : oidJ (v :: T) = (46 :: decI v) ++ oidJ T := rfl
    rw [this, List.length_append, List.length_cons, List.length_cons]; omega
theorem mrow_str {w : World} {B : Nat} {v : Value} {xs : List Int} {n : Nat} (h : MRow 1 5 B w v n (xs.map (Value.int .u8))) (hn : xs.length = n) (h0 : 0 < n) : ∃ b c, v = .slice (some ⟨b, 0, none⟩) n c ∧ Sem.run Tryz.prog (convert 22 9 (.slice (some ⟨b, 0, none⟩) n c)) w = .ok (.string (strOfNums xs)) w := by
  obtain ⟨b, c, rfl, _, _, _, hcell⟩ := h.at h0
  refine ⟨b, _, rfl, run_convert_bytes_arg w _ _ Tryz.und8 Tryz.e8 b 0 n _ xs hn (fun i hi => ?_) _ Tryz.str⟩
  rw [Nat.zero_add, hcell i (by omega), List.getElem?_map, List.getD_eq_getElem?_getD, List.getElem?_eq_getElem (by omega)]
  rfl
set_option maxRecDepth 20000 in
set_option maxHeartbeats 8000000 in
theorem Oid_any {w : World} (v : Value) (X : List Int) (hX : Sl .u8 w v X) (uX : U8s X) (hl : X.length ≤ 6000) (hT : P10 w) :
    Calls Tryz.prog 93 #[v] w fun e w' => (∃ s er, OidR X s er ∧ e = .returned (.tuple #[.string (strOfNums s), .int .i64 er])) ∧ Below w.heap.size w w' := by
  have HX : Hid (Sl .u8 w v X ∧ U8s X ∧ X.length ≤ 6000 ∧ P10 w) := ⟨hX, uX, hl, hT⟩
  clear hX uX hl hT
  go_enter Tryz.func93, Tryz.ntmps93
  go_wp2_with fail
  refine (laidArcs_any v X HX.out.1 HX.out.2.1 HX.out.2.2.1).mono ?_
  rintro e w1 ⟨ha, hb1⟩
  by_cases hg : fine X X.length ∧ arcsOk X = true
  · rcases ha with ⟨_, r1, rfl, hr1⟩ | ⟨hf, _⟩
    · rw [hg.2]
      obtain ⟨A, hA⟩ : ∃ A, (gst X X.length).1 = A := ⟨_, rfl⟩
      rw [hA] at hr1
      have hAl : A.length ≤ 6000 := by rw [← hA]; have := gst_len X X.length; have := HX.out.2.2.1; omega
      obtain ⟨v0, A0, rfl⟩ : ∃ v0 A0, A = v0 :: A0 := by
        cases A with
        | nil =>
          have h1 := hg.2
          unfold arcsOk at h1
          rw [hA] at h1
          simp at h1
        | cons v0 A0 => exact ⟨v0, A0, rfl⟩
      obtain ⟨n, hn⟩ : ∃ n, (v0 :: A0).length = n := ⟨_, rfl⟩
      have hCl : (capL 2147483728 (v0 :: A0)).length = n := by unfold capL; rw [List.length_map]; exact hn
      have hn0 : 0 < n := by rw [← hn]; simp
      obtain ⟨b1, S1, hv, hB1, hA1, hl1, ht1, hm1⟩ := hr1.open n hCl hn0
      subst hv
      obtain ⟨k1, hk1⟩ : ∃ k, S1.length = k := ⟨_, rfl⟩
      rw [hk1] at hl1 ⊢
      obtain ⟨c0, hc0⟩ : ∃ c0 : Int, capN 2147483728 v0 = c0 := ⟨_, rfl⟩
      have cv : c0 = ((min v0 2147483728 : Nat) : Int) := by rw [← hc0]; rfl
      have g0 : S1.getD 0 0 = c0 := by
        have h1 : (S1.take n).getD 0 0 = c0 := by rw [ht1]; exact hc0
        rwa [List.getD_eq_getElem?_getD, List.getElem?_take, if_pos (by omega), ← List.getD_eq_getElem?_getD] at h1
      have d0 : w1.cell? ⟨b1, 0, none⟩ = some (.int .u64 c0) := by rw [hA1.cell 0 (by omega), g0]
      have f0 := hA1.frozen 0
      obtain ⟨x, hx⟩ : ∃ x, oidX v0 = x := ⟨_, rfl⟩
      have hxv : x = min (v0 / 40) 2 := hx.symm
      have c00 : 0 ≤ c0 := by omega
      have c01 : c0 ≤ 2147483728 := by omega
      have hxc : min (c0 / 40) 2 = (x : Int) := by omega
      have hx2 : (x : Int) ≤ 2 := by omega
      have hx2N : x ≤ 2 := by omega
      have hsub : 0 ≤ c0 - 40 * (x : Int) := by omega
      obtain ⟨q, hq⟩ : ∃ q : Int, c0 - 40 * (x : Int) = q := ⟨_, rfl⟩
      rw [hq] at hsub
      have q1 : q ≤ 2147483728 := by omega
      obtain ⟨C, hC⟩ : ∃ C : List Int, q :: capL 2147483728 A0 = C := ⟨_, rfl⟩
      have HS : Hid ((S1.set 0 q).take n = C ∧ C.length = n ∧ U64s C) := by
        have h2 : S1.take n = c0 :: capL 2147483728 A0 := by rw [ht1, ← hc0]; rfl
        refine ⟨?_, ?_, ?_⟩
        · rw [← hC, List.take_set, h2]; rfl
        · rw [← hC, List.length_cons]; unfold capL; rw [List.length_map]; simpa using hn
        · rw [← hC]
          intro z hz
          rcases List.mem_cons.1 hz with rfl | hz
          · omega
          · unfold capL at hz
            obtain ⟨u, _, rfl⟩ := List.mem_map.1 hz
            unfold capN
            omega
      have HT : Hid ((∃ j, j < n ∧ (2147483647 : Int) < C.getD j 0) ↔ oidLong (v0 :: A0) = true) := by
        show _ ↔ _
        have hT0 : oidT (v0 :: A0) = (v0 - 40 * x) :: A0 := by show (v0 - 40 * oidX v0) :: A0 = _; rw [hx]
        unfold oidLong
        rw [hT0, List.any_eq_true]
        constructor
        · rintro ⟨j, hj, h⟩
          rw [← hC] at h
          cases j with
          | zero => exact ⟨v0 - 40 * x, List.mem_cons_self, by rw [List.getD_cons_zero] at h; simp; omega⟩
          | succ j =>
            have hj' : j < A0.length := by simp at hn; omega
            refine ⟨A0[j], by simp, ?_⟩
            have h3 : (capL 2147483728 A0).getD j 0 = capN 2147483728 A0[j] := by unfold capL; simp [List.getD, hj']
            rw [List.getD_cons_succ, h3] at h
            unfold capN at h
            simp; omega
        · rintro ⟨u, hu, h⟩
          rw [← hC]
          rcases List.mem_cons.1 hu with rfl | hu
          · exact ⟨0, hn0, by rw [List.getD_cons_zero]; simp at h; omega⟩
          · obtain ⟨j, hj, rfl⟩ := List.mem_iff_getElem.1 hu
            refine ⟨j + 1, by simp at hn; omega, ?_⟩
            have h3 : (capL 2147483728 A0).getD j 0 = capN 2147483728 A0[j] := by unfold capL; simp [List.getD, hj]
            rw [List.getD_cons_succ, h3]
            unfold capN
            simp at h; omega
      have HE : Hid (oidLong (v0 :: A0) = false → C = (oidT (v0 :: A0)).map (fun (u : Nat) => (u : Int)) ∧ ∀ u ∈ oidT (v0 :: A0), u ≤ 2147483647) := by
        intro hlong
        have hT0 : oidT (v0 :: A0) = (v0 - 40 * x) :: A0 := by show (v0 - 40 * oidX v0) :: A0 = _; rw [hx]
        unfold oidLong at hlong
        rw [hT0, List.any_eq_false] at hlong
        rw [hT0]
        have hall : ∀ u ∈ (v0 - 40 * x) :: A0, u ≤ 2147483647 := fun u hu => by have := hlong u hu; simp at this; omega
        refine ⟨?_, hall⟩
        rw [← hC, List.map_cons]
        congr 1
        · have := hall _ (List.mem_cons_self); omega
        · unfold capL
          refine List.map_congr_left fun u hu => ?_
          have := hall u (List.mem_cons_of_mem _ hu)
          unfold capN; omega
      have H1 : Hid (Arr .u64 136 w1 b1 S1 ∧ w.heap.size ≤ b1 ∧ Below w.heap.size w w1 ∧ n ≤ S1.length ∧ fine X X.length ∧ arcsOk X = true ∧ (gst X X.length).1 = v0 :: A0 ∧ oidX v0 = x ∧ (v0 :: A0).length = n ∧ n ≤ 6000) := ⟨hA1, hB1, hb1, by omega, hg.1, hg.2, hA, hx, hn, by omega⟩
      have hn2 : n ≤ 6000 := H1.out.2.2.2.2.2.2.2.2.2
      clear hr1 hb1 hA1 hB1 hl1 ht1 hm1 g0 hk1 hg hA hAl hn hCl hc0 cv hx hxv
      have hnI : (1 : Int) ≤ (n : Int) := by omega
      have upd : Hid (∀ W, W = w1.setCell ⟨b1, 0, none⟩ (.int .u64 q) → Below w.heap.size w W ∧ Rd .u64 W b1 0 C ∧ b1 < W.heap.size) := by
        rintro W rfl
        have hA := H1.out.1.set 0 q
        refine ⟨(Upd.set w1 b1 0 _).below H1.out.2.2.1 H1.out.2.2.1.size H1.out.2.1, ?_, hA.lt⟩
        have h3 := hA.rd 0 n (by rw [List.length_set]; have := H1.out.2.2.2.1; omega)
        rw [List.drop_zero, HS.out.1] at h3
        exact h3
      go_upto_region 6 with (fail)
      refine wp_gen (fun W => Below w.heap.size w W ∧ Rd .u64 W b1 0 C ∧ b1 < W.heap.size) ?_ ?_
      · refine upd.out _ ?_
        first
          | rfl
          | (congr 2; omega)
      rintro w2 ⟨hb2, hrd2, hlt2⟩
      have H2 : Hid (Below w.heap.size w w2 ∧ Rd .u64 w2 b1 0 C ∧ b1 < w2.heap.size ∧ P10 w2) := ⟨hb2, hrd2, hlt2, P10.below HX.out.2.2.2 hb2⟩
      clear hb2 hrd2 hlt2 d0 f0
      have hmx := mxN_gt (X := C) 2147483647 n hn0
      have hmb := mxN_bd HS.out.2.2 n
      obtain ⟨m, hm⟩ : ∃ m, mxN C n = m := ⟨_, rfl⟩
      rw [hm] at hmx hmb
      have HM : Hid (mxN C n = m ∧ ((2147483647 : Int) < m ↔ oidLong (v0 :: A0) = true)) := ⟨hm, hmx.trans HT.out⟩
      have m0 := hmb.1
      have m1 := hmb.2
      clear hmx hmb hm
      go_wp2_with fail
      refine (Max_any b1 k1 n C H2.out.2.1 HS.out.2.1 hn0 (by omega) HS.out.2.2).mono ?_
      rw [HM.out.1]
      rintro e w3 ⟨rfl, rfl⟩
      by_cases hlong : (2147483647 : Int) < m
      · go_wp2
        go_ret2
        refine ⟨⟨[], 3, .inr (.inl ⟨⟨H1.out.2.2.2.2.1, H1.out.2.2.2.2.2.1⟩, ?_, rfl, rfl⟩), rfl⟩, H2.out.1⟩
        rw [H1.out.2.2.2.2.2.2.1]; exact HM.out.2.1 hlong
      have hnl : oidLong (v0 :: A0) = false := by
        cases h : oidLong (v0 :: A0) with
        | false => rfl
        | true => exact absurd (HM.out.2.2 h) hlong
      obtain ⟨T, hTT⟩ : ∃ T, oidT (v0 :: A0) = T := ⟨_, rfl⟩
      have hE := HE.out hnl
      rw [hTT] at hE
      have HN : Hid (oidLong (v0 :: A0) = false ∧ oidT (v0 :: A0) = T ∧ C = T.map (fun (u : Nat) => (u : Int)) ∧ (∀ u ∈ T, u ≤ 2147483647) ∧ T.length = n) := ⟨hnl, hTT, hE.1, hE.2, by have := HS.out.2.1; rw [hE.1, List.length_map] at this; exact this⟩
      clear hnl hTT hE
      go_wp2_with fail
      refine (AppU_any (.slice none 0 0) w2.heap.size x [] (MRow.nil _ _ _ _) (by omega) (by simp) (Nat.le_refl _) H2.out.2.2.2).mono ?_
      rintro e w4 ⟨r4, rfl, hr4, hb4⟩
      rw [List.nil_append] at hr4
      have H4 : Hid (MRow 1 5 w2.heap.size w4 r4 (decI x).length ((decI x).map (Value.int .u8)) ∧ Below w2.heap.size w2 w4) := ⟨hr4, hb4⟩
      clear hr4 hb4
      go_wp2_with fail
      go_loopw [7, 36] (fun sv iv wr => ∃ (i : Nat) (s0 : Value) (S : List Int), s0 = sv ∧ iv = .int .i64 i ∧ i ≤ n ∧ S = decI x ++ oidJ (T.take i) ∧ MRow 1 5 w2.heap.size wr s0 S.length (S.map (Value.int .u8)) ∧ Below w2.heap.size w2 wr) (fun _ iv _ => n - (intOf iv).toNat)
      case atStart => exact ⟨0, _, _, rfl, rfl, by omega, rfl, by simpa [oidJ] using H4.out.1, H4.out.2⟩
      case round =>
        obtain ⟨i, s0, S, rfl, rfl, hi, hS, hr, hb⟩ := hrel
        have hSl : S.length ≤ 130000 := by
          have h1 := decI_le x (by omega)
          have h2 := oidJ_len (T.take i) (fun u hu => by have := HN.out.2.2.2.1 u (List.mem_of_mem_take hu); omega)
          rw [List.length_take] at h2
          rw [hS, List.length_append]
          omega
        have H5 : Hid (S = decI x ++ oidJ (T.take i) ∧ MRow 1 5 w2.heap.size wr s0 S.length (S.map (Value.int .u8)) ∧ Below w2.heap.size w2 wr) := ⟨hS, hr, hb⟩
        clear hS hr hb
        by_cases hlt : i < n
        · have l1 : (i : Int) < (n : Int) := by omega
          obtain ⟨u, hu⟩ : ∃ u, T.getD i 0 = u := ⟨_, rfl⟩
          have hu2 : u ≤ 2147483647 := by
            rw [← hu, List.getD_eq_getElem?_getD, List.getElem?_eq_getElem (by have := HN.out.2.2.2.2; omega)]
            exact HN.out.2.2.2.1 _ (List.getElem_mem _)
          have cu : wr.cell? ⟨b1, i, none⟩ = some (.int .u64 (u : Int)) := by
            have h1 := H2.out.2.1 i (by have := HS.out.2.1; omega)
            rw [Nat.zero_add] at h1
            rw [H5.out.2.2.cell (p := ⟨b1, i, none⟩) H2.out.2.2.1, h1]
            have hi' : i < T.length := by have := HN.out.2.2.2.2; omega
            rw [HN.out.2.2.1, ← hu]
            simp [List.getD, hi']
          have HU : Hid (T.getD i 0 = u) := hu
          clear hu
          go_wp2_with (at_builtin; refine wpList_apm rfl (.tmp 40) (.tmp 41) 22 22 rfl 1 (.int .u8 0) rfl 5 1 Tryz.und8 Tryz.info8 (by decide) w2.heap.size _ S.length _ rfl (H5.out.2.1.alloc _) _ 1 [.int .u8 46] rfl (src_sl Tryz.und8 (new1 46)) (by omega) (by have := H5.out.2.2.size; simp; omega) ?_; intro v6 w6 hr6 hg6)
          have hb6 : Below w2.heap.size w2 w6 := (al2' H5.out.2.2).trans (hg6.below (H5.out.2.1.alloc _) (by have := H5.out.2.2.size; simp; omega))
          have H6 : Hid (MRow 1 5 w2.heap.size w6 v6 (S ++ [46]).length ((S ++ [46]).map (Value.int .u8)) ∧ Below w2.heap.size w2 w6) := ⟨by rw [List.length_append, List.map_append]; exact hr6, hb6⟩
          clear hr6 hg6 hb6 cu
          refine (AppU_any v6 w2.heap.size u (S ++ [46]) H6.out.1 (by omega) (by rw [List.length_append]; simp; omega) H6.out.2.size (P10.below H2.out.2.2.2 H6.out.2)).mono ?_
          rintro e w7 ⟨r7, rfl, hr7, hb7⟩
          have H7 : Hid (MRow 1 5 w2.heap.size w7 r7 (S ++ [46] ++ decI u).length ((S ++ [46] ++ decI u).map (Value.int .u8)) ∧ Below w2.heap.size w2 w7) := ⟨hr7, H6.out.2.trans hb7⟩
          clear hr7 hb7
          go_wp2
          go_roundw
          case rel =>
            refine ⟨i + 1, _, _, rfl, by go_num, by omega, ?_, H7.out.1, H7.out.2⟩
            rw [oidJ_snoc T i (by have := HN.out.2.2.2.2; omega), HU.out, H5.out.1]
            simp
          case measure => simp [intOf]; omega
        · obtain rfl : i = n := by omega
          have l1 : ¬ (i : Int) < (i : Int) := by omega
          have hS2 : S = oidS (v0 :: A0) := by
            rw [H5.out.1, List.take_of_length_le (by have := HN.out.2.2.2.2; omega)]
            unfold oidS
            rw [HN.out.2.1, List.headD_cons, H1.out.2.2.2.2.2.2.2.1]
          have hpos : 0 < S.length := by
            rw [H5.out.1, List.length_append, decI_len, Lib.decDigits_length]
            have := Lib.nDigits_pos x; omega
          obtain ⟨b5, c5, hv5, hcv⟩ := mrow_str H5.out.2.1 rfl hpos
          subst hv5
          have HS2 : Hid (S = oidS (v0 :: A0)) := hS2
          clear hS2 hpos
          go_wp2
          go_ret2
          refine ⟨⟨S, 0, .inr (.inr ⟨⟨H1.out.2.2.2.2.1, H1.out.2.2.2.2.2.1⟩, ?_, ?_, rfl⟩), rfl⟩, H2.out.1.trans (H5.out.2.2.mono H2.out.1.size)⟩
          · rw [H1.out.2.2.2.2.2.2.1]; exact HN.out.1
          · rw [H1.out.2.2.2.2.2.2.1]; exact HS2.out
    · exact absurd hg.1 hf
  · have HR : Hid (OidR X [] 6) := .inl ⟨hg, rfl, rfl⟩
    obtain ⟨r1, rfl, hne⟩ : ∃ r1, e = .returned (.tuple #[r1, .bool false]) ∧ True := by
      rcases ha with ⟨hf, r1, rfl, _⟩ | ⟨_, rfl⟩
      · have h1 : arcsOk X = false := by
          cases h : arcsOk X with
          | false => rfl
          | true => exact absurd ⟨hf, h⟩ hg
        rw [h1]; exact ⟨r1, rfl, trivial⟩
      · exact ⟨_, rfl, trivial⟩
    have HB : Hid (Below w.heap.size w w1) := hb1
    clear ha hb1 hg hne
    go_wp2
    go_ret2
    exact ⟨⟨[], 6, HR.out, rfl⟩, HB.out⟩
end Go.Proofs.YtillkhjihggcjaaGreatDoor
/-
  Alg: what names an algorithm, over elements; no Go text in sight.
-/
namespace Go.Proofs.YtillkhjihggcjaaGreatDoor
open Go.RowKit
/-- What Oid tells, as a function. -/
def oidF (X : List Int) : List Int × Int :=
  if (∀ j, j < X.length → ¬ (btw X j = true ∧ X.getD j 0 = 128)) ∧ arcsOk X = true then (if oidLong (gst X X.length).1 = true then ([], 3) else (oidS (gst X X.length).1, 0)) else ([], 6)
theorem oidF_of {X s : List Int} {er : Int} (h : OidR X s er) : s = (oidF X).1 ∧ er = (oidF X).2 := by
  unfold oidF
  rcases h with ⟨h1, rfl, rfl⟩ | ⟨h1, h2, rfl, rfl⟩ | ⟨h1, h2, rfl, rfl⟩
  · rw [if_neg (show ¬ ((∀ j, j < X.length → ¬ (btw X j = true ∧ X.getD j 0 = 128)) ∧ arcsOk X = true) from h1)]; exact ⟨rfl, rfl⟩
  · rw [if_pos (show (∀ j, j < X.length → ¬ (btw X j = true ∧ X.getD j 0 = 128)) ∧ arcsOk X = true from h1), if_pos h2]; exact ⟨rfl, rfl⟩
  · rw [if_pos (show (∀ j, j < X.length → ¬ (btw X j = true ∧ X.getD j 0 = 128)) ∧ arcsOk X = true from h1), if_neg (by rw [h2]; decide)]; exact ⟨rfl, rfl⟩
theorem spl_good {M : List Int} (hM : U8s M) : ∀ f p L, M.length - p = f → (∀ y ∈ L, y.d.length ≤ M.length ∧ U8s y.d ∧ 0 ≤ y.tg) → ∀ L', spl M p L = .inr L' → ∀ y ∈ L', y.d.length ≤ M.length ∧ U8s y.d ∧ 0 ≤ y.tg := by
  intro f
  induction f using Nat.strongRecOn with
  | _ f ih =>
    intro p L hf hy L' h
    by_cases hp : p < M.length
    · by_cases hL2 : L.length < 65536
      · cases hE : elemS M p with
        | inl pq => obtain ⟨e', a'⟩ := pq; rw [spl_bad hp hL2 hE] at h; cases h
        | inr pq =>
          obtain ⟨t, j, E⟩ := pq
          have := elemS_ok hM hp hE
          rw [spl_ok hM hp hL2 hE] at h
          refine ih (M.length - E) (by omega) E _ rfl ?_ L' h
          intro y hy'
          rcases List.mem_append.1 hy' with hy' | hy'
          · exact hy y hy'
          · rw [List.mem_singleton] at hy'
            subst hy'
            refine ⟨?_, ?_, this.2.2.2.1⟩
            · show ((M.drop j).take (E - j)).length ≤ _; rw [List.length_take, List.length_drop]; omega
            · exact (hM.drop j).take _
      · rw [spl_many hp (by omega)] at h; cases h
    · rw [spl_end (by omega)] at h; cases h; exact hy
theorem splitS_good {M : List Int} (hM : U8s M) {L : List El} (h : splitS M = .inr L) : ∀ y ∈ L, y.d.length ≤ M.length ∧ U8s y.d ∧ 0 ≤ y.tg := by
  unfold splitS at h
  split at h
  · cases h
  · exact spl_good hM _ 0 [] rfl (by simp) L h
/-- Universal, not made of others, of that tag. -/
def isP (x : El) (t : Int) : Bool := x.cl == 0 && x.tg == t && !x.co
/-- What a row is made of. -/
def rowO : Sp → Option (List El)
  | .inl _ => none
  | .inr L => some L
def rowS (x : El) : Option (List El) := if (x.cl == 0 && x.tg == 16 && x.co) = true then rowO (splitS x.d) else none
/-- A text that an Oid tells; false: there is none. -/
def oidO (x : El) : Option ByteArray := if isP x 6 = true ∧ (oidF x.d).2 = 0 then some (strOfNums (oidF x.d).1) else none
def idC (rest : List El) : Option ByteArray → Option (ByteArray × List El)
  | none => none
  | some s => some (s, rest)
def idL : List El → Option (ByteArray × List El)
  | [a] => idC [] (oidO a)
  | [a, b] => idC [b] (oidO a)
  | _ => none
def idO : Option (List El) → Option (ByteArray × List El)
  | none => none
  | some L => idL L
/-- What names an algorithm: its Oid's text, its rest. -/
def idS (x : El) : Option (ByteArray × List El) := idO (rowS x)
def vdB : List El → Bool
  | [] => true
  | b :: _ => isP b 5 && b.d.isEmpty
/-- Which digest a text names; 0: none. -/
def dgN (S : ByteArray) : Int := if (S.toList == [49, 46, 51, 46, 49, 52, 46, 51, 46, 50, 46, 50, 54]) = true then 1 else if (S.toList == [50, 46, 49, 54, 46, 56, 52, 48, 46, 49, 46, 49, 48, 49, 46, 51, 46, 52, 46, 50, 46, 49]) = true then 2 else if (S.toList == [50, 46, 49, 54, 46, 56, 52, 48, 46, 49, 46, 49, 48, 49, 46, 51, 46, 52, 46, 50, 46, 50]) = true then 3 else if (S.toList == [50, 46, 49, 54, 46, 56, 52, 48, 46, 49, 46, 49, 48, 49, 46, 51, 46, 52, 46, 50, 46, 51]) = true then 4 else 0
def digO : Option (ByteArray × List El) → Int
  | none => 0
  | some (s, rest) => if vdB rest = true then dgN s else 0
def digS (x : El) : Int := digO (idS x)
end Go.Proofs.YtillkhjihggcjaaGreatDoor
/-
  Alg: row, isPlain, readOid.
-/
namespace Go.Proofs.YtillkhjihggcjaaGreatDoor
open Go.RowKit
set_option maxRecDepth 20000
theorem isPlain_any {w : World} (x : El) (d r : Value) (t : Int) : Calls Tryz.prog 71 #[.agg #[.int .i64 x.cl, .int .i64 x.tg, .bool x.co, d, r], .int .i64 t] w fun e w' => e = .returned (.bool (isP x t)) ∧ Below w.heap.size w w' := by
  obtain ⟨cl, tg, co, xd, xr⟩ := x
  unfold isP
  simp only []
  by_cases h1 : cl = 0
  · by_cases h2 : tg = t
    · subst h1 h2
      cases co <;> (go_enter Tryz.func71, Tryz.ntmps71; go_wp2; go_ret; exact ⟨by simp, al1 _⟩)
    · have d2 : (tg == t) = false := by simpa using h2
      subst h1
      go_enter Tryz.func71, Tryz.ntmps71; go_wp2; go_ret; exact ⟨by simp [d2], al1 _⟩
  · have d1 : (cl == 0) = false := by simpa using h1
    go_enter Tryz.func71, Tryz.ntmps71; go_wp2; go_ret; exact ⟨by simp [d1], al1 _⟩
/-- What row tells. -/
def RowAns (B : Nat) (w : World) (e : Ending) : Option (List El) → Prop
  | none => ∃ a n c, e = .returned (.tuple #[.slice a n c, .bool false])
  | some L => ∃ v, e = .returned (.tuple #[v, .bool true]) ∧ Tlvs B w v L
set_option maxHeartbeats 1000000 in
theorem row_any {w : World} (x : El) (a1 : Option Addr) (n1 c1 : Nat) (r : Value) (hD : Sl .u8 w (.slice a1 n1 c1) x.d) (uD : U8s x.d) (lD : x.d.length ≤ 6000) :
    Calls Tryz.prog 55 #[.agg #[.int .i64 x.cl, .int .i64 x.tg, .bool x.co, .slice a1 n1 c1, r]] w fun e w' => RowAns w.heap.size w' e (rowS x) ∧ Below w.heap.size w w' := by
  obtain ⟨cl, tg, co, D, R⟩ := x
  simp only [] at hD uD lD ⊢
  obtain ⟨O, hO⟩ : ∃ O, rowS ⟨cl, tg, co, D, R⟩ = O := ⟨_, rfl⟩
  rw [hO]
  by_cases hy : (cl == 0 && tg == 16 && co) = true
  · have HR : Hid (O = rowO (splitS D)) := by show _ = _; rw [← hO]; unfold rowS; rw [if_pos hy]
    obtain ⟨h1, h2, h3⟩ : cl = 0 ∧ tg = 16 ∧ co = true := by simp at hy; exact ⟨hy.1.1, hy.1.2, hy.2⟩
    subst h1 h2 h3
    have HS : Hid (∀ W, Below w.heap.size w W → Calls Tryz.prog 75 #[.slice a1 n1 c1] W fun e w' => (∃ v, e = .returned (.tuple #[v, .int .i64 (spE (splitS D)), .int .i64 (spA D.length (splitS D))]) ∧ Tlvs W.heap.size w' v (spL (splitS D))) ∧ Below W.heap.size W w') := fun W h => (SplitS_any _ D (below_sl h hD) uD (by omega)).mono fun e w' ⟨ha, hb⟩ => ⟨ha.uni, hb⟩
    have HE : Hid (∀ er at', splitS D = .inl (er, at') → er ≠ 0) := fun er at' h => splitS_err uD h
    clear hD uD lD hy hO
    go_enter Tryz.func55, Tryz.ntmps55
    go_wp2_with fail
    refine (HS.out _ (al1 _)).mono ?_
    rintro e w1 ⟨⟨v, rfl, hv⟩, hb⟩
    obtain ⟨av, cv, hvv⟩ : ∃ a c, v = .slice a (spL (splitS D)).length c := by
      obtain ⟨Y, h1, h2, _⟩ := hv; obtain ⟨a, c, h3⟩ := h2.ne; rw [← h1, List.length_map]; exact ⟨a, c, h3⟩
    obtain ⟨nv, hnv⟩ : ∃ n, (spL (splitS D)).length = n := ⟨_, rfl⟩
    rw [hnv] at hvv
    subst hvv
    have H1 : Hid (Below w.heap.size w w1 ∧ Tlvs w.heap.size w1 (.slice av nv cv) (spL (splitS D))) := ⟨below_via (al1 _) hb (Nat.le_refl _), hv.mono (by simp)⟩
    clear hv hb hnv
    cases hS : splitS D with
    | inl pq =>
      obtain ⟨er, at'⟩ := pq
      have h0 := HE.out er at' hS
      have h00 : (er == 0) = false := by simpa using h0
      have HO : Hid (O = none) := by show _ = _; rw [HR.out, hS]; rfl
      clear HS HE HR
      rw [show spE (.inl (er, at')) = er from rfl]
      obtain ⟨z, hz⟩ : ∃ z, (spA D.length (.inl (er, at')) : Nat) = z := ⟨_, rfl⟩
      rw [hz]
      clear hz hS
      go_wp2
      go_ret2
      rw [HO.out]
      exact ⟨⟨av, nv, cv, rfl⟩, H1.out.1⟩
    | inr L =>
      have H2 : Hid (Below w.heap.size w w1 ∧ Tlvs w.heap.size w1 (.slice av nv cv) L) := ⟨H1.out.1, by have := H1.out.2; rw [hS] at this; exact this⟩
      have HO : Hid (O = some L) := by show _ = _; rw [HR.out, hS]; rfl
      clear HS HE HR H1
      rw [show spE (.inr L) = 0 from rfl]
      obtain ⟨z, hz⟩ : ∃ z, (spA D.length (.inr L) : Nat) = z := ⟨_, rfl⟩
      rw [hz]
      clear hz hS
      go_wp2
      go_ret2
      rw [HO.out]
      exact ⟨⟨_, rfl, H2.out.2⟩, H2.out.1⟩
  · obtain rfl : O = none := by rw [← hO]; unfold rowS; rw [if_neg hy]
    clear hD uD lD hO
    by_cases h1 : cl = 0
    · subst h1
      by_cases h2 : tg = 16
      · subst h2
        have h3 : co = false := by simpa using hy
        subst h3
        clear hy
        go_enter Tryz.func55, Tryz.ntmps55; go_wp2; go_ret2; exact ⟨⟨none, 0, 0, rfl⟩, al1 _⟩
      · have d2 : (tg != 16) = true := by simpa using h2
        clear hy
        go_enter Tryz.func55, Tryz.ntmps55; go_wp2; go_ret2; exact ⟨⟨none, 0, 0, rfl⟩, al1 _⟩
    · have d1 : (cl != 0) = true := by simpa using h1
      clear hy
      go_enter Tryz.func55, Tryz.ntmps55; go_wp2; go_ret2; exact ⟨⟨none, 0, 0, rfl⟩, al1 _⟩
end Go.Proofs.YtillkhjihggcjaaGreatDoor
/-
  Der: the reference's decimal digits.
-/
namespace Go.Proofs.YtillkhjihggcjaaGreatDoor
open Go.RowKit
theorem st_app (X Y : List Int) : strOfNums X ++ strOfNums Y = strOfNums (X ++ Y) := by
  apply ByteArray.ext
  simp [strOfNums, ByteArray.data_append]
theorem st_size (X : List Int) : (strOfNums X).size = X.length := strOfNums_size X
theorem decI_one {u : Nat} (h : u < 10) : decI u = [48 + (u : Int)] := by
  unfold decI
  rw [Lib.decDigits_one h]
  simp
  omega
theorem decI_big {u : Nat} (h : ¬ u < 10) : decI u = decI (u / 10) ++ [48 + ((u % 10 : Nat) : Int)] := by
  have : decI (u % 10) = [48 + ((u % 10 : Nat) : Int)] := decI_one (by omega)
  rw [← this]
  unfold decI
  rw [← List.map_append, Lib.decDigits_one (i := u % 10) (by omega)]
  conv => lhs; rw [Lib.decDigits, dif_neg h]
theorem one_str (w : World) (x : Int) : Sem.run Tryz.prog (convert 22 9 (.slice (some ⟨w.heap.size, 0, none⟩) 1 1)) (w.alloc (.cells #[.int .u8 x] 5)) = .ok (.string (strOfNums [x])) (w.alloc (.cells #[.int .u8 x] 5)) := by
  refine run_convert_bytes_arg _ _ _ Tryz.und8 Tryz.e8 w.heap.size 0 1 _ [x] rfl (fun i hi => ?_) _ Tryz.str
  obtain rfl : i = 0 := by omega
  exact (Blk.new 5 w [.int .u8 x]).cell 0
set_option maxRecDepth 20000 in
set_option maxHeartbeats 2000000 in
theorem Decimal_any {w : World} (N : Nat) (hN : N ≤ 4294967296) :
    Calls Tryz.prog 63 #[.int .i64 N] w fun e w' => e = .returned (.string (strOfNums (decI N))) ∧ Below w.heap.size w w' := by
  go_enter Tryz.func63, Tryz.ntmps63
  go_wp2_with fail
  go_loopw [0, 3] (fun nv sv wr => ∃ (u : Nat) (D : ByteArray) (S : List Int), nv = .int .i64 u ∧ sv = .string D ∧ D = strOfNums S ∧ u ≤ 4294967296 ∧ decI u ++ S = decI N ∧ S.length ≤ 20 ∧ Below w.heap.size w wr) (fun nv _ _ => (intOf nv).toNat)
  case atStart => exact ⟨N, _, [], rfl, rfl, rfl, hN, by simp, by simp, Below.refl _ _⟩
  case round =>
    obtain ⟨u, D, S, rfl, rfl, hD, hu, hS, hSl, hb⟩ := hrel
    have huI : (u : Int) ≤ 4294967296 := by omega
    have hsz : D.size ≤ 20 := by rw [hD, st_size]; exact hSl
    have H1 : Hid (D = strOfNums S ∧ decI u ++ S = decI N ∧ Below w.heap.size w wr) := ⟨hD, hS, hb⟩
    clear hD hS hb
    by_cases h9 : 9 < u
    · have h9I : (9 : Int) < (u : Int) := by omega
      obtain ⟨x, hx⟩ : ∃ x : Int, 48 + ((u % 10 : Nat) : Int) = x := ⟨_, rfl⟩
      have hx1 : 48 + (u : Int) % 10 = x := by omega
      have hx2 : IntKind.u8.wrap x = x := (by rw [IntKind.wrap_u8]; omega)
      have hcv := one_str wr x
      obtain ⟨D1, hD1⟩ : ∃ D1, strOfNums [x] = D1 := ⟨_, rfl⟩
      rw [hD1] at hcv
      have hz1 : D1.size = 1 := by rw [← hD1, st_size]; rfl
      obtain ⟨E, hE⟩ : ∃ E, D1 ++ D = E := ⟨_, rfl⟩
      have HE : Hid (E = strOfNums (x :: S) ∧ decI (u / 10) ++ (x :: S) = decI N ∧ (x :: S).length ≤ 20) := by
        have h3 : decI (u / 10) ++ (x :: S) = decI N := by
          rw [← H1.out.2.1, decI_big (u := u) (by omega), hx]; simp
        refine ⟨by rw [← hE, ← hD1, H1.out.1, st_app]; rfl, h3, ?_⟩
        have h4 := congrArg List.length h3
        rw [List.length_append] at h4
        have := decI_le N (by omega)
        omega
      clear hx
      go_wp2
      go_roundw
      case rel => exact ⟨u / 10, E, x :: S, by go_num, rfl, HE.out.1, by omega, HE.out.2.1, HE.out.2.2, al2' H1.out.2.2⟩
      case measure => simp [intOf]; omega
    · have h9I : ¬ (9 : Int) < (u : Int) := by omega
      obtain ⟨x, hx⟩ : ∃ x : Int, 48 + (u : Int) = x := ⟨_, rfl⟩
      have hx2 : IntKind.u8.wrap x = x := (by rw [IntKind.wrap_u8]; omega)
      have hcv := one_str wr x
      obtain ⟨D1, hD1⟩ : ∃ D1, strOfNums [x] = D1 := ⟨_, rfl⟩
      rw [hD1] at hcv
      have hz1 : D1.size = 1 := by rw [← hD1, st_size]; rfl
      obtain ⟨E, hE⟩ : ∃ E, D1 ++ D = E := ⟨_, rfl⟩
      have HE : Hid (E = strOfNums (decI N)) := by
        show _ = _
        rw [← hE, ← hD1, H1.out.1, st_app, ← H1.out.2.1, decI_one (by omega), hx]
      go_wp2
      go_ret
      exact ⟨by rw [← HE.out]; rfl, al2' H1.out.2.2⟩
end Go.Proofs.YtillkhjihggcjaaGreatDoor
