/-
  Der: the reference's Split.
-/
import Derived.Test.YtndcpjnfdgojkaaDoorE49
import Derived.Test.YtndcpjnfdgojkaaDoorApZ
namespace Go.Proofs.YtndcpjnfdgojkaaDoor
open Go.RowKit
/-- A slice of elements that can be read; the slice itself is the call's own. -/
def TlvR (B : Nat) (w : World) (v : Value) (L : List El) : Prop :=
  ∃ Y : List Tc, Y.map (·.1) = L ∧ MRow 5 32 B w v Y.length (tlvCells Y) ∧ ∀ y ∈ Y, Rw .u8 5 B w y.2.1 y.1.d ∧ Rw .u8 5 B w y.2.2 y.1.r
theorem TlvR.nil (B : Nat) (w : World) : TlvR B w (.slice none 0 0) [] := ⟨[], rfl, MRow.nil _ _ _ _, by simp⟩
theorem TlvR.below {B : Nat} {w w' : World} {v : Value} {L : List El} (h : TlvR B w v L) (hb : Below w.heap.size w w') : TlvR B w' v L := by
  obtain ⟨Y, h1, h2, h3⟩ := h
  exact ⟨Y, h1, h2.below hb, fun y hy => ⟨(h3 y hy).1.below hb, (h3 y hy).2.below hb⟩⟩
theorem TlvR.mono {B B' : Nat} {w : World} {v : Value} {L : List El} (h : TlvR B w v L) (hb : B' ≤ B) : TlvR B' w v L := by
  obtain ⟨Y, h1, h2, h3⟩ := h
  exact ⟨Y, h1, h2.mono hb, fun y hy => ⟨(h3 y hy).1.mono hb, (h3 y hy).2.mono hb⟩⟩
theorem Tlvs.r {B : Nat} {w : World} {v : Value} {L : List El} (h : Tlvs B w v L) : TlvR B w v L := by
  obtain ⟨Y, h1, h2, h3, _⟩ := h
  exact ⟨Y, h1, h2, fun y hy => ⟨.inl (h3 y hy).1, .inl (h3 y hy).2⟩⟩
theorem Rw.mgrew {B : Nat} {w w' : World} {v u : Value} {xs : List Int} (h : Rw .u8 5 B w v xs) (hg : MGrew 32 w w' u) : Rw .u8 5 B w' v xs := by
  rcases h with h | h
  · exact .inl (h.mgrew hg)
  · exact .inr h
theorem sz_of {w W : World} (hb : Below w.heap.size w W) : w.heap.size ≤ W.heap.size := hb.size
theorem ks_al {w W : World} {p : Addr} {v : Value} {o : Obj} (hp : p.block < w.heap.size) (hv : w.cell? p = some v) (h : Below w.heap.size w W) : Below w.heap.size w (W.alloc o) ∧ (W.alloc o).cell? p = some v :=
  ⟨al2' h, ((al2' h).cell hp).trans hv⟩
theorem ks_ald {w W : World} {p : Addr} {v : Value} {o : Obj} (hp : p.block < w.heap.size) (hv : w.cell? p = some v) (h : Below w.heap.size w W.drew) : Below w.heap.size w (W.alloc o).drew ∧ (W.alloc o).drew.cell? p = some v := by
  have h1 : Below w.heap.size w W := h.trans ⟨rfl, rfl, rfl, Nat.le_refl _, fun _ _ => rfl⟩
  have h2 : Below w.heap.size w (W.alloc o).drew := (al2' h1).drew
  exact ⟨h2, (h2.cell hp).trans hv⟩
theorem ks_below {w W W' : World} {p : Addr} {v : Value} (hp : p.block < w.heap.size) (hv : w.cell? p = some v) (h : Below w.heap.size w W) (h' : Below W.heap.size W W') : Below w.heap.size w W' ∧ W'.cell? p = some v :=
  ⟨below_via h h' (Nat.le_refl _), ((below_via h h' (Nat.le_refl _)).cell hp).trans hv⟩
theorem ks_tr {w W W' : World} {p : Addr} {v : Value} (hp : p.block < w.heap.size) (hv : w.cell? p = some v) (h : Below w.heap.size w W) (h' : Below w.heap.size W W') : Below w.heap.size w W' ∧ W'.cell? p = some v :=
  ⟨h.trans h', ((h.trans h').cell hp).trans hv⟩
/-- The slice and its rows, with the values by name. -/
def TY (B : Nat) (w : World) (v : Value) (k : Nat) (Y : List Tc) : Prop := MRow 5 32 B w v k (tlvCells Y) ∧ ∀ y ∈ Y, Rw .u8 5 B w y.2.1 y.1.d ∧ Rw .u8 5 B w y.2.2 y.1.r
theorem TY.below {B : Nat} {w w' : World} {v : Value} {k : Nat} {Y : List Tc} (h : TY B w v k Y) (hb : Below w.heap.size w w') : TY B w' v k Y :=
  ⟨h.1.below hb, fun y hy => ⟨(h.2 y hy).1.below hb, (h.2 y hy).2.below hb⟩⟩
theorem TY.alloc {B : Nat} {w : World} {v : Value} {k : Nat} {Y : List Tc} (h : TY B w v k Y) (o : Obj) : TY B (w.alloc o) v k Y := h.below (al1 o)
theorem TY.drew {B : Nat} {w : World} {v : Value} {k : Nat} {Y : List Tc} (h : TY B w v k Y) : TY B w.drew v k Y := h.below ⟨rfl, rfl, rfl, Nat.le_refl _, fun _ _ => rfl⟩
def SplitOutR (n : Nat) (B : Nat) (w : World) (e : Ending) : Sp → Prop
  | .bad er a => e = .returned (.tuple #[.slice none 0 0, .int .i64 er, .int .i64 a])
  | .ok L => ∃ v, e = .returned (.tuple #[v, .int .i64 0, .int .i64 n]) ∧ TlvR B w v L
set_option maxRecDepth 20000 in
set_option maxHeartbeats 4000000 in
theorem RSplit_ne {w : World} (b off n c : Nat) (M : List Int) (hM : Rd .u8 w b off M) (uM : U8s M) (hMl : M.length = n) (hn : n ≤ 16777216) (hnc : n ≤ c) (hb : b < w.heap.size) :
    Calls Tryd.prog 11 #[.slice (some ⟨b, off, none⟩) n c] w fun e w' => SplitOutR n w.heap.size w' e (splitS M) ∧ Below w.heap.size w w' := by
  obtain ⟨O, hO⟩ : ∃ O, spl M 0 [] = O := ⟨_, rfl⟩
  have HO : Hid (spl M 0 [] = O ∧ splitS M = O) := ⟨hO, by unfold splitS; rw [if_neg (by omega), hO]⟩
  have HX : Hid (Rd .u8 w b off M ∧ U8s M ∧ M.length = n) := ⟨hM, uM, hMl⟩
  have hnI : (n : Int) ≤ 16777216 := by omega
  rw [HO.out.2]
  clear hM uM hMl hO
  go_enter Tryd.func11, Tryd.ntmps11
  go_wp2_with fail
  go_loopw [5, 6] (fun lv pv wr => ∃ (p : Nat) (L : List El) (v : Value), v = lv ∧ pv = .int .i64 p ∧ Below w.heap.size w wr ∧ TlvR w.heap.size wr v L ∧ spl M p L = O ∧ L.length ≤ 65536 ∧ p ≤ n) (fun _ pv _ => n - (intOf pv).toNat)
  case atStart => exact ⟨0, [], _, rfl, rfl, Below.refl _ _, TlvR.nil _ _, HO.out.1, by simp, by omega⟩
  case round =>
    obtain ⟨p, L, v, rfl, rfl, hbl, ⟨Y, hYL, hm, hrows⟩, hO, hL, hp⟩ := hrel
    have hYl : Y.length = L.length := by rw [← hYL, List.length_map]
    obtain ⟨al, cl, hv⟩ := hm.ne
    obtain ⟨k, hk⟩ : ∃ k, Y.length = k := ⟨_, rfl⟩
    rw [hk] at hv hm
    subst hv
    have hkL : k ≤ 65536 := by omega
    have H2 : Hid (Below w.heap.size w wr ∧ Y.map (·.1) = L ∧ MRow 5 32 w.heap.size wr (.slice al k cl) k (tlvCells Y) ∧ (∀ y ∈ Y, Rw .u8 5 w.heap.size wr y.2.1 y.1.d ∧ Rw .u8 5 w.heap.size wr y.2.2 y.1.r) ∧ spl M p L = O ∧ Y.length = k ∧ L.length = k) := ⟨hbl, hYL, hm, hrows, hO, hk, by omega⟩
    clear hYL hm hrows hO hk hYl hL
    by_cases hlt : p < n
    · have l1 : (p : Int) < (n : Int) := by omega
      by_cases hmany : k = 65536
      · subst hmany
        go_wp2
        go_ret3
        have h1 := H2.out.2.2.2.2.1
        rw [spl_many (by have := HX.out.2.2; omega) (by have := H2.out.2.2.2.2.2; omega)] at h1
        subst h1
        exact ⟨rfl, H2.out.1⟩
      have hmb : ¬ (65536 : Int) ≤ (k : Int) := by omega
      go_wp2_with fail
      refine (Rtag_any b off n c p M (below_rd H2.out.1 hb HX.out.1) HX.out.2.1 HX.out.2.2 hn hlt).mono ?_
      obtain ⟨T, hT⟩ : ∃ T, tagS M p = T := ⟨_, rfl⟩
      have HT : Hid (tagS M p = T) := hT
      rw [hT]
      clear hT
      intro e v2 h2
      cases T with
      | bad er a =>
        obtain ⟨rfl, rfl⟩ : e = .returned (.tuple #[.int .i64 0, .int .i64 0, .int .i64 er, .int .i64 a]) ∧ wr = v2 := h2
        have hbad := tagS_bad (M := M) (p := p) (by have := HX.out.2.2; omega) HT.out
        have hne : (er != 0) = true := by simp; omega
        have HE : Hid (O = .bad er a) := by
          show _ = _
          rw [← H2.out.2.2.2.2.1]; refine spl_bad (by have := HX.out.2.2; omega) (by have := H2.out.2.2.2.2.2; omega) ?_
          unfold elemS; rw [HT.out]
        clear hbad
        go_wp2
        go_ret3
        rw [HE.out]
        exact ⟨rfl, H2.out.1⟩
      | ok t i =>
        obtain ⟨rfl, rfl⟩ : e = .returned (.tuple #[.int .i64 t, .int .i64 i, .int .i64 0, .int .i64 0]) ∧ wr = v2 := h2
        have hok := tagS_ok (M := M) (p := p) HX.out.2.1 (by have := HX.out.2.2; omega) HT.out
        have hiM : i ≤ n := by have := HX.out.2.2; omega
        have t0 := hok.2.2.1
        have t1 := hok.2.2.2
        have HI : Hid (p < i) := hok.1
        clear hok
        go_wp2_with fail
        refine (Rlength_any b off n c i M (below_rd H2.out.1 hb HX.out.1) HX.out.2.1 HX.out.2.2 hn hiM).mono ?_
        obtain ⟨S, hS⟩ : ∃ S, lenS M i = S := ⟨_, rfl⟩
        have HS : Hid (lenS M i = S) := hS
        rw [hS]
        clear hS
        intro e v2 h2
        cases S with
        | bad er a =>
          obtain ⟨rfl, rfl⟩ : e = .returned (.tuple #[.int .i64 0, .int .i64 0, .int .i64 er, .int .i64 a]) ∧ wr = v2 := h2
          have hbad := lenS_bad (M := M) (i := i) (by have := HX.out.2.2; omega) HS.out
          have hne : (er != 0) = true := by simp; omega
          have HE : Hid (O = .bad er a) := by
            show _ = _
            rw [← H2.out.2.2.2.2.1]; refine spl_bad (by have := HX.out.2.2; omega) (by have := H2.out.2.2.2.2.2; omega) ?_
            unfold elemS; rw [HT.out]; simp only []; rw [HS.out]
          clear hbad
          go_wp2
          go_ret3
          rw [HE.out]
          exact ⟨rfl, H2.out.1⟩
        | ok lv j =>
          obtain ⟨rfl, rfl⟩ : e = .returned (.tuple #[.int .i64 lv, .int .i64 j, .int .i64 0, .int .i64 0]) ∧ wr = v2 := h2
          have hlo := lenS_ok HX.out.2.1 HS.out
          obtain ⟨l, rfl⟩ := Int.eq_ofNat_of_zero_le hlo.2.1
          obtain ⟨E, hE⟩ : ∃ E, j + l = E := ⟨_, rfl⟩
          have hMn := HX.out.2.2
          have HE : Hid (elemS M p = .ok t j E ∧ spl M E (L ++ [elAt M p t j E]) = O) := by
            have h1 : elemS M p = .ok t j E := by unfold elemS; rw [HT.out]; simp only []; rw [HS.out]; simp only [Int.toNat_natCast]; rw [hE]
            refine ⟨h1, ?_⟩
            rw [← H2.out.2.2.2.2.1]
            exact (spl_ok HX.out.2.1 (by have := HX.out.2.2; omega) (by have := H2.out.2.2.2.2.2; omega) h1).symm
          have hEI : (j : Int) + (l : Int) = (E : Int) := by omega
          have hpj : p < j := by have := HI.out; omega
          have hjE : j ≤ E := by omega
          have hEn : E ≤ n := by omega
          clear hlo hMn
          obtain ⟨x, hx⟩ : ∃ x, M.getD p 0 = x := ⟨_, rfl⟩
          have hu8 := HX.out.2.1.at p
          rw [hx] at hu8
          have x0 := hu8.1
          have x1 := hu8.2
          have cx : wr.cell? ⟨b, off + p, none⟩ = some (.int .u8 x) := by rw [below_rd H2.out.1 hb HX.out.1 p (by have := HX.out.2.2; omega), hx]
          obtain ⟨X1, hX1⟩ : ∃ X1, (M.drop j).take (E - j) = X1 := ⟨_, rfl⟩
          obtain ⟨X2, hX2⟩ : ∃ X2, (M.drop p).take (E - p) = X2 := ⟨_, rfl⟩
          have HEl : Hid (elAt M p t j E = ⟨x / 64, t, x / 32 % 2 == 1, X1, X2⟩) := by
            show _ = _
            unfold elAt
            rw [hx, hX1, hX2]
            congr 1
          have HQ : Hid (IntKind.i64.wrap (IntKind.u8.wrap (x.tdiv 64)) = x / 64 ∧ (IntKind.u8.wrap (x.tdiv 32)).tmod 2 = x / 32 % 2) := by
            rw [Int.tdiv_eq_ediv_of_nonneg x0, Int.tdiv_eq_ediv_of_nonneg x0, IntKind.wrap_u8, IntKind.wrap_u8, IntKind.wrap_i64]
            refine ⟨by omega, ?_⟩
            rw [Int.tmod_eq_emod_of_nonneg (by omega)]; omega
          have HL1 : Hid (X1.length = E - j ∧ X2.length = E - p ∧ E ≤ 16777216) := by
            have := HX.out.2.2
            refine ⟨?_, ?_, by omega⟩
            · rw [← hX1, List.length_take, List.length_drop]; omega
            · rw [← hX2, List.length_take, List.length_drop]; omega
          obtain ⟨ba, hba⟩ : ∃ ba : Option Addr, (if c = j then some ⟨b, off, none⟩ else some ⟨b, off + j, none⟩) = ba := ⟨_, rfl⟩
          have HC : Hid (∀ W : World, Below w.heap.size w W → Sl .u8 W (.slice ba (E - j) (c - j)) X1) := fun W hW => by
            have h0 := hW
            have := rd_slo (c := c) (Nat.lt_of_lt_of_le hb h0.size) (below_rd h0 hb HX.out.1) j E hjE (by have := HX.out.2.2; omega) (by omega)
            rw [← hba, ← hX1]; exact this
          have HC2 : Hid (∀ W : World, Below w.heap.size w W → Sl .u8 W (.slice (some ⟨b, off + p, none⟩) (E - p) (c - p)) X2) := fun W hW => by
            have h0 := hW
            have := rd_slo (c := c) (Nat.lt_of_lt_of_le hb h0.size) (below_rd h0 hb HX.out.1) p E (by omega) (by have := HX.out.2.2; omega) (by omega)
            rw [if_neg (by omega)] at this
            rw [← hX2]; exact this
          have cw : w.cell? ⟨b, off + p, none⟩ = some (.int .u8 x) := by rw [HX.out.1 p (by have := HX.out.2.2; omega), hx]
          have hT : TY w.heap.size wr (.slice al k cl) k Y := ⟨H2.out.2.2.1, H2.out.2.2.2.1⟩
          have hbw : Below w.heap.size w wr := H2.out.1
          have hjI : (j : Int) ≤ (E : Int) := by omega
          have hpE : (p : Int) ≤ (E : Int) := by omega
          have hEc : (E : Int) ≤ (c : Int) := by omega
          have hpc : ¬ c = p := by omega
          have hwE : IntKind.i64.wrap (E : Int) = (E : Int) := by rw [IntKind.wrap_i64]; omega
          have hpE2 : p ≤ E := by omega
          have x10 : x / 64 ≤ 3 := by omega
          clear hu8 hbl hX1 hX2
          go_upto_region 14 with (fail)
          go_region_held3 (fun W => Below w.heap.size w W ∧ W.cell? ⟨b, off + p, none⟩ = some (.int .u8 x)) (first | exact ⟨hbw.drew, cx⟩ | exact ks_ald hb cw (And.left (by assumption)) | exact ks_al hb cw (And.left (by assumption)) | exact ks_below hb cw (And.left (by assumption)) (by assumption) | exact ks_tr hb cw (And.left (by assumption)) (by assumption))
            (first
              | (refine step_ap0 (by rfl) (.tmp 63) (.tmp 69) 22 22 (by rfl) .u8 5 1 Tryd.und8 Tryd.info8 (by decide) w.heap.size _ (by rfl) _ X1 (by rfl) (src_sl Tryd.und8 (HC.out _ (And.left (by assumption)))) (by have := HL1.out; omega) (sz_of (And.left (by assumption))) ?_; intro v5 w5 hr5 hb5; obtain ⟨a5, c5, hv5⟩ := hr5.ne; rw [HL1.out.1] at hv5; subst hv5; have hT5 := (by first | exact (hT.alloc _).drew.below hb5 | exact ((hT.alloc _).alloc _).drew.below hb5 : TY w.heap.size w5 (.slice al k cl) k Y))
              | (refine step_ap0 (by rfl) (.tmp 71) (.tmp 77) 22 22 (by rfl) .u8 5 1 Tryd.und8 Tryd.info8 (by decide) w.heap.size _ (by rfl) _ X2 (by rfl) (src_sl Tryd.und8 (HC2.out _ (And.left (by assumption)))) (by have := HL1.out; omega) (sz_of (And.left (by assumption))) ?_; intro v7 w7 hr7 hb7; obtain ⟨a7, c7, hv7⟩ := hr7.ne; rw [HL1.out.2.1] at hv7; subst hv7; have hT7 := (by first | exact (hT5.alloc _).below hb7 | exact hT5.below hb7 : TY w.heap.size w7 (.slice al k cl) k Y); have hr57 := (by first | exact (hr5.alloc _).below hb7 | exact hr5.below hb7 : Rw .u8 5 w.heap.size w7 (.slice a5 (E - j) c5) X1))
              | (refine step_apm (by rfl) (.tmp 48) (.tmp 80) 25 25 (by rfl) 5 zeroT rfl 32 72 Tryd.undT Tryd.infoT (by decide) w.heap.size _ k _ (by rfl) (hT7.alloc _).1 _ 1 [.int .i64 (IntKind.i64.wrap (IntKind.u8.wrap (x.tdiv 64))), .int .i64 t, .bool ((IntKind.u8.wrap (x.tdiv 32)).tmod 2 == 1), .slice a5 (E - j) c5, .slice a7 (E - p) c7] (by rfl) (src_m (T := 32) Tryd.undT 5 (blk_nw (by simp) rfl) rfl (tlv_one _ _ _ _ _ _ _ _ _)) (by omega) (sz_of (And.left (by assumption))) ?_; intro v9 w9 hr9 hg9; have hb9 := hg9.below (hT7.alloc _).1 (sz_of (And.left (by assumption)))))
          all_goals
            have hbw9 : Below w.heap.size w w9 := And.left (by assumption)
            have H9 : Hid (Below w.heap.size w w9 ∧ TlvR w.heap.size w9 v9 (L ++ [elAt M p t j E])) := by
              refine ⟨hbw9, Y ++ [(elAt M p t j E, .slice a5 (E - j) c5, .slice a7 (E - p) c7)], ?_, ?_, ?_⟩
              · rw [List.map_append, H2.out.2.1]; rfl
              · rw [tlvCells_snoc, List.length_append, H2.out.2.2.2.2.2.1, HEl.out]
                rw [HQ.out.1, HQ.out.2] at hr9
                exact hr9
              · intro y hy
                rcases List.mem_append.1 hy with hy | hy
                · exact ⟨((hT7.2 y hy).1.alloc _).mgrew hg9, ((hT7.2 y hy).2.alloc _).mgrew hg9⟩
                · rw [List.mem_singleton] at hy
                  subst hy
                  rw [HEl.out]
                  exact ⟨(hr57.alloc _).mgrew hg9, (hr7.alloc _).mgrew hg9⟩
            clear hbw9 hr9 hg9 hb9 hT7 hr57 hr7 hT5 hr5 hb5 hb7 hT
            go_wp2
            go_roundw
            case rel => exact ⟨E, _, _, rfl, rfl, H9.out.1, H9.out.2, HE.out.2, by rw [List.length_append, H2.out.2.2.2.2.2.2]; show k + 1 ≤ _; omega, hEn⟩
            case measure => simp [intOf]; omega
    · obtain rfl : p = n := by omega
      have l1 : ¬ (p : Int) < (p : Int) := by omega
      go_wp2
      go_ret3
      have h1 := H2.out.2.2.2.2.1
      rw [spl_end (by have := HX.out.2.2; omega)] at h1
      subst h1
      refine ⟨⟨_, rfl, ?_⟩, H2.out.1⟩
      have h2 := H2.out
      exact ⟨Y, h2.2.1, by rw [h2.2.2.2.2.2.1]; exact h2.2.2.1, h2.2.2.2.1⟩
end Go.Proofs.YtndcpjnfdgojkaaDoor
