/-
  Der: the reference's Split of any slice, its One; the same rows.
-/
import Derived.Test.YtedoghjefdkmaaaK17
namespace Go.Proofs.Ytedoghjefdkmaaa
open Go.RowKit
theorem Rw.upd {k : IntKind} {e : TypeId} {B : Nat} {w w' : World} {v : Value} {xs : List Int} {g : Nat} (h : Rw k e B w v xs) (hu : Upd w w' g) (hg : g < B) : Rw k e B w' v xs := by
  rcases h with h | h
  · exact .inl (h.upd hu hg)
  · exact .inr h
set_option maxRecDepth 20000 in
set_option maxHeartbeats 4000000 in
theorem RSplit_any {w : World} (v : Value) (M : List Int) (hv : Sl .u8 w v M) (uM : U8s M) (hl : M.length ≤ 9223372036854775807) :
    Calls Try.prog 23 #[v] w fun e w' => SplitOutR M.length w.heap.size w' e (splitS M) ∧ Below w.heap.size w w' := by
  obtain ⟨a, c, rfl, hc, h⟩ := hv
  by_cases hn : M.length ≤ 16777216
  · by_cases hne : M = []
    · subst hne
      have HE : Hid (splitS [] = .ok []) := rfl
      rw [HE.out]
      simp only [List.length_nil]
      go_enter Try.func23, Try.ntmps23
      go_wp2_with fail
      refine wp_loop_rounds 1 ?_
      rw [rounds_succ]
      go_wp2
      go_ret3
      exact ⟨⟨_, rfl, TlvR.nil _ _⟩, Below.refl _ _⟩
    · rcases h with h | ⟨b, off, rfl, hb, hr⟩
      · exact absurd h hne
      · exact RSplit_ne b off M.length c M hr uM rfl hn hc hb
  · have HE : Hid (splitS M = .bad 3 0) := by show _ = _; unfold splitS; rw [if_pos (by omega)]
    have hnI : (16777216 : Int) < (M.length : Int) := by omega
    rw [HE.out]
    obtain ⟨n, hn⟩ : ∃ n, M.length = n := ⟨_, rfl⟩
    rw [hn] at hnI ⊢
    clear h
    go_enter Try.func23, Try.ntmps23
    go_wp2
    go_ret3
    exact ⟨rfl, Below.refl _ _⟩
def OneOutR (B : Nat) (w : World) (e : Ending) (o : El × Int) : Prop :=
  ∃ a1 n1 c1 a2 n2 c2, e = .returned (.tuple #[.agg #[.int .i64 o.1.cl, .int .i64 o.1.tg, .bool o.1.co, .slice a1 n1 c1, .slice a2 n2 c2], .int .i64 o.2]) ∧ Rw .u8 5 B w (.slice a1 n1 c1) o.1.d ∧ Rw .u8 5 B w (.slice a2 n2 c2) o.1.r
theorem OneOutR.no (B : Nat) (w : World) (er : Int) (e : Ending) (h : e = .returned (.tuple #[nilT, .int .i64 er])) : OneOutR B w e (noEl, er) :=
  ⟨none, 0, 0, none, 0, 0, h, .inl (Row.nil _ _ _ _), .inl (Row.nil _ _ _ _)⟩
set_option maxRecDepth 20000 in
set_option maxHeartbeats 4000000 in
theorem ROne_any {w : World} (v : Value) (M : List Int) (hv : Sl .u8 w v M) (uM : U8s M) (hl : M.length ≤ 9223372036854775807) :
    Calls Try.prog 22 #[v] w fun e w' => OneOutR w.heap.size w' e (oneS (splitS M)) ∧ Below w.heap.size w w' := by
  have HX : Hid (Sl .u8 w v M ∧ U8s M ∧ M.length ≤ 9223372036854775807) := ⟨hv, uM, hl⟩
  clear hv uM hl
  obtain ⟨S, hS⟩ : ∃ S, splitS M = S := ⟨_, rfl⟩
  have HS : Hid (splitS M = S) := hS
  rw [hS]
  clear hS
  go_enter Try.func22, Try.ntmps22
  go_wp2_with fail
  refine (RSplit_any v M (sl_alloc HX.out.1 _) HX.out.2.1 HX.out.2.2).mono ?_
  rintro e w1 ⟨ha, hb⟩
  rw [HS.out] at ha
  have hB1 : Blk 48 w1 w.heap.size [.int .i64 0, .int .i64 0, .bool false, .slice none 0 0, .slice none 0 0] := below_blk hb (by simp) (Blk.new _ w _)
  have H1 : Hid (Below w.heap.size w w1 ∧ Blk 48 w1 w.heap.size [.int .i64 0, .int .i64 0, .bool false, .slice none 0 0, .slice none 0 0]) := ⟨below_via (al1 _) hb (Nat.le_refl _), hB1⟩
  have d0 : w1.cell? ⟨w.heap.size, 0, none⟩ = some (.int .i64 0) := hB1.cell 0
  have d1 : w1.cell? ⟨w.heap.size, 1, none⟩ = some (.int .i64 0) := hB1.cell 1
  have d2 : w1.cell? ⟨w.heap.size, 2, none⟩ = some (.bool false) := hB1.cell 2
  have d3 : w1.cell? ⟨w.heap.size, 3, none⟩ = some (.slice none 0 0) := hB1.cell 3
  have d4 : w1.cell? ⟨w.heap.size, 4, none⟩ = some (.slice none 0 0) := hB1.cell 4
  have f0 := hB1.frozen 0
  have f1 := hB1.frozen 1
  have f2 := hB1.frozen 2
  have f3 := hB1.frozen 3
  have f4 := hB1.frozen 4
  have hs1 : w.heap.size < w1.heap.size := hB1.lt
  clear hb hB1
  have hB : Hid (Blk 48 (((((w1.setCell ⟨w.heap.size, 0, none⟩ (.int .i64 0)).setCell ⟨w.heap.size, 1, none⟩ (.int .i64 0)).setCell ⟨w.heap.size, 2, none⟩ (.bool false)).setCell ⟨w.heap.size, 3, none⟩ (.slice none 0 0)).setCell ⟨w.heap.size, 4, none⟩ (.slice none 0 0)) w.heap.size [.int .i64 0, .int .i64 0, .bool false, .slice none 0 0, .slice none 0 0]) :=
    ((((H1.out.2.set 0 (.int .i64 0)).set 1 (.int .i64 0)).set 2 (.bool false)).set 3 (.slice none 0 0)).set 4 (.slice none 0 0)
  have hU : Hid (Upd w1 (((((w1.setCell ⟨w.heap.size, 0, none⟩ (.int .i64 0)).setCell ⟨w.heap.size, 1, none⟩ (.int .i64 0)).setCell ⟨w.heap.size, 2, none⟩ (.bool false)).setCell ⟨w.heap.size, 3, none⟩ (.slice none 0 0)).setCell ⟨w.heap.size, 4, none⟩ (.slice none 0 0)) w.heap.size) :=
    ((((Upd.set w1 w.heap.size 0 (.int .i64 0)).trans (Upd.set _ _ 1 (.int .i64 0))).trans (Upd.set _ _ 2 (.bool false))).trans (Upd.set _ _ 3 (.slice none 0 0))).trans (Upd.set _ _ 4 (.slice none 0 0))
  cases S with
  | bad er a =>
    have hne0 := splitS_err HX.out.2.1 HS.out
    have hne : (er != 0) = true := by simpa using hne0
    obtain rfl : e = .returned (.tuple #[.slice none 0 0, .int .i64 er, .int .i64 a]) := ha
    go_wp2
    refine bodyPost_ret (results_blk2 rfl rfl hB.out Try.underlying48 rfl Try.sizeT rfl) rfl ⟨?_, hU.out.below H1.out.1 H1.out.1.size (Nat.le_refl _)⟩
    exact OneOutR.no _ _ _ _ rfl
  | ok L =>
    obtain ⟨v2, rfl, ht⟩ : ∃ v, e = .returned (.tuple #[v, .int .i64 0, .int .i64 M.length]) ∧ TlvR (w.alloc (.cells #[.int .i64 0, .int .i64 0, .bool false, .slice none 0 0, .slice none 0 0] 48)).heap.size w1 v L := ha
    obtain ⟨Y, hYL, hm, hrows⟩ := ht
    obtain ⟨al, cl, hv2⟩ := hm.ne
    obtain ⟨k, hk⟩ : ∃ k, Y.length = k := ⟨_, rfl⟩
    rw [hk] at hv2
    subst hv2
    have hlen := hYL
    cases Y with
    | nil =>
      subst hYL
      have hk0 : 0 = k := hk
      subst hk0
      go_wp2
      refine bodyPost_ret (results_blk2 rfl rfl hB.out Try.underlying48 rfl Try.sizeT rfl) rfl ⟨?_, hU.out.below H1.out.1 H1.out.1.size (Nat.le_refl _)⟩
      exact OneOutR.no _ _ _ _ rfl
    | cons y Y =>
      cases Y with
      | cons y2 Y =>
        subst hYL
        have hk1 : (1 : Int) < (k : Int) := by simp at hk; omega
        have hk2 : ((k : Int) == 0) = false := by simp; omega
        clear hk hm hrows hlen
        go_wp2
        refine bodyPost_ret (results_blk2 rfl rfl hB.out Try.underlying48 rfl Try.sizeT rfl) rfl ⟨?_, hU.out.below H1.out.1 H1.out.1.size (Nat.le_refl _)⟩
        exact OneOutR.no _ _ _ _ rfl
      | nil =>
        subst hYL
        have hk1 : 1 = k := hk
        subst hk1
        clear hk hlen
        obtain ⟨⟨xc, xt, xo, xd, xr⟩, yd, yr⟩ := y
        have hr1 := hrows _ (List.mem_singleton_self _)
        obtain ⟨a1, c1, hd⟩ := hr1.1.ne
        obtain ⟨a2, c2, hr⟩ := hr1.2.ne
        obtain ⟨n1, hn1⟩ : ∃ n1, xd.length = n1 := ⟨_, rfl⟩
        obtain ⟨n2, hn2⟩ : ∃ n2, xr.length = n2 := ⟨_, rfl⟩
        simp only [] at hd hr
        rw [hn1] at hd
        rw [hn2] at hr
        subst hd
        subst hr
        clear hn1 hn2
        obtain ⟨bl, cl2, hv, hc2, hbl, hbv, hcells⟩ := hm.at (by simp)
        simp only [Value.slice.injEq] at hv
        obtain ⟨rfl, h11, rfl⟩ := hv
        clear h11
        have e0 : w1.cell? ⟨bl, 0, none⟩ = some (.int .i64 xc) := hcells 0 (by simp)
        have e1 : w1.cell? ⟨bl, 1, none⟩ = some (.int .i64 xt) := hcells 1 (by simp)
        have e2 : w1.cell? ⟨bl, 2, none⟩ = some (.bool xo) := hcells 2 (by simp)
        have e3 : w1.cell? ⟨bl, 3, none⟩ = some (.slice a1 n1 c1) := hcells 3 (by simp)
        have e4 : w1.cell? ⟨bl, 4, none⟩ = some (.slice a2 n2 c2) := hcells 4 (by simp)
        have H2 : Hid (Rw .u8 5 (w.heap.size + 1) w1 (.slice a1 n1 c1) xd ∧ Rw .u8 5 (w.heap.size + 1) w1 (.slice a2 n2 c2) xr) := ⟨by simpa using hr1.1, by simpa using hr1.2⟩
        clear hcells hr1 hm hrows hbl hbv hc2 hs1
        go_wp2
        have hB' := ((((H1.out.2.set 0 (.int .i64 xc)).set 1 (.int .i64 xt)).set 2 (.bool xo)).set 3 (.slice a1 n1 c1)).set 4 (.slice a2 n2 c2)
        have hU' := ((((Upd.set w1 w.heap.size 0 (.int .i64 xc)).trans (Upd.set _ _ 1 (.int .i64 xt))).trans (Upd.set _ _ 2 (.bool xo))).trans (Upd.set _ _ 3 (.slice a1 n1 c1))).trans (Upd.set _ _ 4 (.slice a2 n2 c2))
        refine bodyPost_ret (results_blk2 rfl rfl hB' Try.underlying48 rfl Try.sizeT rfl) rfl ⟨⟨a1, n1, c1, a2, n2, c2, rfl, ?_, ?_⟩, hU'.below H1.out.1 H1.out.1.size (Nat.le_refl _)⟩
        · exact (H2.out.1.upd hU' (Nat.lt_succ_self _)).mono (Nat.le_succ _)
        · exact (H2.out.2.upd hU' (Nat.lt_succ_self _)).mono (Nat.le_succ _)
end Go.Proofs.Ytedoghjefdkmaaa
/-
  Ecdsa: the reference's Parse.
-/
namespace Go.Proofs.Ytedoghjefdkmaaa
open Go.RowKit
theorem kindB_cl {cl tg : Int} {co : Bool} {t : Int} {c : Bool} (h : (cl != 0) = true) : kindB cl tg co t c = false := by unfold kindB; simp at h; simp [h]
theorem kindB_tg {cl tg : Int} {co : Bool} {t : Int} {c : Bool} (h : (tg != t) = true) : kindB cl tg co t c = false := by unfold kindB; simp at h; simp [h]
theorem kindB_co {cl tg : Int} {t : Int} {c : Bool} : kindB cl tg (!c) t c = false := by unfold kindB; cases c <;> simp
theorem kindB_ok {cl tg : Int} {t : Int} {c : Bool} (h1 : (cl != 0) = false) (h2 : (tg != t) = false) : kindB cl tg c t c = true := by unfold kindB; simp at h1 h2; simp [h1, h2]
theorem rw_ne {k : IntKind} {e : TypeId} {B : Nat} {w : World} {v : Value} {xs : List Int} (h : Rw k e B w v xs) : ∃ a c, v = .slice a xs.length c := by
  rcases h with h | ⟨rfl, a, c, rfl⟩
  · exact h.ne
  · exact ⟨a, c, rfl⟩
theorem ParseAns.no {M : List Int} {w w' : World} {n : Int} (h : ecS M = ([], [], n)) (hb : Below w.heap.size w w') : ParseAns M w w' (.returned (.tuple #[.slice none 0 0, .slice none 0 0, .int .i64 n])) := by
  unfold ParseAns; rw [h]; exact ⟨_, _, rfl, Sl.nil0 _ _, Sl.nil0 _ _, hb⟩
set_option maxRecDepth 20000 in
set_option maxHeartbeats 4000000 in
theorem RParse_any {w : World} (v : Value) (M : List Int) (hv : Sl .u8 w v M) (uM : U8s M) (hl : M.length ≤ 16384) :
    Calls Try.prog 8 #[v] w fun e w' => ParseAns M w w' e := by
  have HO : Hid (Calls Try.prog 22 #[v] w fun e w' => OneOutR w.heap.size w' e (oneS (splitS M)) ∧ Below w.heap.size w w') := ROne_any v M hv uM (by omega)
  have HU := oneS_u8 uM
  obtain ⟨⟨⟨xc, xt, xo, xd, xr⟩, oe⟩, ho⟩ : ∃ O, oneS (splitS M) = O := ⟨_, rfl⟩
  have HE : Hid (ecS M = ecO (⟨xc, xt, xo, xd, xr⟩, oe)) := by show ecO _ = _; rw [ho]
  rw [ho] at HO HU
  have HU2 : Hid (xd.length ≤ 16384 ∧ U8s xd) := ⟨Nat.le_trans HU.1 hl, HU.2⟩
  clear HU
  clear ho hv uM hl
  go_enter Try.func8, Try.ntmps8
  go_wp2_with fail
  refine HO.out.mono ?_
  rintro e w1 ⟨⟨a1, n1, c1, a2, n2, c2, rfl, hr1, hr2⟩, hb1⟩
  simp only [] at hr1
  have H1 : Hid (Sl .u8 w1 (.slice a1 n1 c1) xd ∧ Below w.heap.size w w1) := ⟨hr1.sl, hb1⟩
  clear hr1 hr2 hb1 HO
  by_cases h0 : oe = 0
  · subst h0
    replace HE : Hid (ecS M = if kindB xc xt xo 16 true = false then ([], [], 30) else ecL (splitS xd)) := HE.out.trans (if_neg (by simp))
    cases q1 : xc != 0 with
    | true =>
      have HE2 : Hid (ecS M = ([], [], 30)) := HE.out.trans (if_pos (kindB_cl q1))
      go_wp2
      go_ret3
      exact ParseAns.no HE2.out (below_via H1.out.2 (al1 _) (Nat.le_refl _))
    | false =>
    cases q2 : xt != 16 with
    | true =>
      have HE2 : Hid (ecS M = ([], [], 30)) := HE.out.trans (if_pos (kindB_tg q2))
      go_wp2
      go_ret3
      exact ParseAns.no HE2.out (below_via H1.out.2 (al1 _) (Nat.le_refl _))
    | false =>
    cases xo with
    | false =>
      have HE2 : Hid (ecS M = ([], [], 30)) := HE.out.trans (if_pos (kindB_co (c := true)))
      go_wp2
      go_ret3
      exact ParseAns.no HE2.out (below_via H1.out.2 (al1 _) (Nat.le_refl _))
    | true =>
      have HE2 : Hid (ecS M = ecL (splitS xd)) := HE.out.trans (if_neg (by rw [kindB_ok q1 q2]; decide))
      clear HE
      go_wp2_with fail
      refine (RSplit_any (.slice a1 n1 c1) xd (sl_alloc H1.out.1 _) HU2.out.2 (by have := HU2.out.1; omega)).mono ?_
      rintro e w4 ⟨ha, hb4⟩
      clear q1 q2
      have H4 : Hid (Below w.heap.size w w4) := below_via (below_via H1.out.2 (al1 _) (Nat.le_refl _)) hb4 (Nat.le_refl _)
      obtain ⟨S, hS⟩ : ∃ S, splitS xd = S := ⟨_, rfl⟩
      rw [hS] at ha
      have HS : Hid (splitS xd = S) := hS
      rw [hS] at HE2
      clear hb4 hS
      cases S with
      | bad er a =>
        have hne0 := splitS_err HU2.out.2 HS.out
        have hne : (er != 0) = true := by simpa using hne0
        obtain rfl : e = .returned (.tuple #[.slice none 0 0, .int .i64 er, .int .i64 a]) := ha
        go_wp2
        go_ret3
        exact ParseAns.no HE2.out H4.out
      | ok L =>
        obtain ⟨v2, rfl, ht⟩ : ∃ v, e = .returned (.tuple #[v, .int .i64 0, .int .i64 xd.length]) ∧ TlvR (w1.alloc (.cells #[.int .i64 xc, .int .i64 xt, .bool true, .slice a1 n1 c1, .slice a2 n2 c2] 48)).heap.size w4 v L := ha
        have HL := splitS_u8 HU2.out.2 HS.out
        obtain ⟨Y, hYL, hm, hrows⟩ := ht
        obtain ⟨al, cl, hv2⟩ := hm.ne
        obtain ⟨k, hk⟩ : ∃ k, Y.length = k := ⟨_, rfl⟩
        rw [hk] at hv2
        subst hv2
        subst hYL
        by_cases hk2 : k = 2
        · subst hk2
          obtain ⟨y1, y2, rfl⟩ : ∃ y1 y2, Y = [y1, y2] := by
            match Y, hk with
            | [y1, y2], _ => exact ⟨y1, y2, rfl⟩
          clear hk
          obtain ⟨⟨xc1, xt1, xo1, xd1, xr1⟩, yd1, yr1⟩ := y1
          obtain ⟨⟨xc2, xt2, xo2, xd2, xr2⟩, yd2, yr2⟩ := y2
          have hr1 := hrows (⟨xc1, xt1, xo1, xd1, xr1⟩, yd1, yr1) (by simp)
          have hr2 := hrows (⟨xc2, xt2, xo2, xd2, xr2⟩, yd2, yr2) (by simp)
          have hu1 := HL ⟨xc1, xt1, xo1, xd1, xr1⟩ (by simp)
          have hu2 := HL ⟨xc2, xt2, xo2, xd2, xr2⟩ (by simp)
          obtain ⟨da1, dc1, hd1⟩ := rw_ne hr1.1
          obtain ⟨ra1, rc1, hd2⟩ := rw_ne hr1.2
          obtain ⟨da2, dc2, hd3⟩ := rw_ne hr2.1
          obtain ⟨ra2, rc2, hd4⟩ := rw_ne hr2.2
          obtain ⟨dn1, hn1⟩ : ∃ n1, xd1.length = n1 := ⟨_, rfl⟩
          obtain ⟨rn1, hn2⟩ : ∃ n1, xr1.length = n1 := ⟨_, rfl⟩
          obtain ⟨dn2, hn3⟩ : ∃ n1, xd2.length = n1 := ⟨_, rfl⟩
          obtain ⟨rn2, hn4⟩ : ∃ n1, xr2.length = n1 := ⟨_, rfl⟩
          simp only [] at hd1 hd2 hd3 hd4
          rw [hn1] at hd1
          rw [hn2] at hd2
          rw [hn3] at hd3
          rw [hn4] at hd4
          subst hd1 hd2 hd3 hd4
          clear hn1 hn2 hn3 hn4
          obtain ⟨bl, cl2, hv, hc2, hbl, hbv, hcells⟩ := hm.at (by simp)
          simp only [Value.slice.injEq] at hv
          obtain ⟨rfl, h11, rfl⟩ := hv
          clear h11
          have e0 : w4.cell? ⟨bl, 0, none⟩ = some (.int .i64 xc1) := hcells 0 (by simp)
          have e1 : w4.cell? ⟨bl, 1, none⟩ = some (.int .i64 xt1) := hcells 1 (by simp)
          have e2 : w4.cell? ⟨bl, 2, none⟩ = some (.bool xo1) := hcells 2 (by simp)
          have e3 : w4.cell? ⟨bl, 3, none⟩ = some (.slice da1 dn1 dc1) := hcells 3 (by simp)
          have e4 : w4.cell? ⟨bl, 4, none⟩ = some (.slice ra1 rn1 rc1) := hcells 4 (by simp)
          have e5 : w4.cell? ⟨bl, 5, none⟩ = some (.int .i64 xc2) := hcells 5 (by simp)
          have e6 : w4.cell? ⟨bl, 6, none⟩ = some (.int .i64 xt2) := hcells 6 (by simp)
          have e7 : w4.cell? ⟨bl, 7, none⟩ = some (.bool xo2) := hcells 7 (by simp)
          have e8 : w4.cell? ⟨bl, 8, none⟩ = some (.slice da2 dn2 dc2) := hcells 8 (by simp)
          have e9 : w4.cell? ⟨bl, 9, none⟩ = some (.slice ra2 rn2 rc2) := hcells 9 (by simp)
          have hce : Hid (∀ W, Below w4.heap.size w4 W → W.cell? ⟨bl, 5, none⟩ = some (.int .i64 xc2) ∧ W.cell? ⟨bl, 6, none⟩ = some (.int .i64 xt2) ∧ W.cell? ⟨bl, 7, none⟩ = some (.bool xo2) ∧ W.cell? ⟨bl, 8, none⟩ = some (.slice da2 dn2 dc2) ∧ W.cell? ⟨bl, 9, none⟩ = some (.slice ra2 rn2 rc2) ∧ W.cell? ⟨bl, 3, none⟩ = some (.slice da1 dn1 dc1)) :=
            fun W hW => ⟨(hW.cell hbv).trans e5, (hW.cell hbv).trans e6, (hW.cell hbv).trans e7, (hW.cell hbv).trans e8, (hW.cell hbv).trans e9, (hW.cell hbv).trans e3⟩
          have HY : Hid (Sl .u8 w4 (.slice da1 dn1 dc1) xd1 ∧ U8s xd1 ∧ xd1.length ≤ 16384 ∧ Sl .u8 w4 (.slice da2 dn2 dc2) xd2 ∧ U8s xd2 ∧ xd2.length ≤ 16384) :=
            ⟨hr1.1.sl, hu1.2, Nat.le_trans hu1.1 HU2.out.1, hr2.1.sl, hu2.2, Nat.le_trans hu2.1 HU2.out.1⟩
          have HE3 : Hid (ecS M = ecP ⟨xc1, xt1, xo1, xd1, xr1⟩ ⟨xc2, xt2, xo2, xd2, xr2⟩) := HE2.out
          clear hm hrows HL HE2 hcells hr1 hr2 hu1 hu2 hbl
          cases p1 : xc1 != 0 with
          | true =>
            have HE4 : Hid (ecS M = ([], [], 30)) := HE3.out.trans (if_pos (by rw [kindB_cl (cl := xc1) p1]; simp))
            clear hce
            go_wp2
            refine wp_loop_rounds 3 ?_
            rw [rounds_succ]
            go_wp2
            go_ret3
            exact ParseAns.no HE4.out H4.out
          | false =>
          cases r1 : xt1 != 2 with
          | true =>
            have HE4 : Hid (ecS M = ([], [], 30)) := HE3.out.trans (if_pos (by rw [kindB_tg (tg := xt1) r1]; simp))
            clear hce
            go_wp2
            refine wp_loop_rounds 3 ?_
            rw [rounds_succ]
            go_wp2
            go_ret3
            exact ParseAns.no HE4.out H4.out
          | false =>
          cases xo1 with
          | true =>
            have HE4 : Hid (ecS M = ([], [], 30)) := HE3.out.trans (if_pos (by rw [show kindB xc1 xt1 true 2 false = false from kindB_co (c := false)]; simp))
            clear hce
            go_wp2
            refine wp_loop_rounds 3 ?_
            rw [rounds_succ]
            go_wp2
            go_ret3
            exact ParseAns.no HE4.out H4.out
          | false =>
          cases p2 : xc2 != 0 with
          | true =>
            have HE4 : Hid (ecS M = ([], [], 30)) := HE3.out.trans (if_pos (by rw [kindB_cl (cl := xc2) p2]; simp))
            clear hce
            go_wp2
            refine wp_loop_rounds 3 ?_
            rw [rounds_succ]
            go_wp2
            rw [rounds_succ]
            go_wp2
            go_ret3
            exact ParseAns.no HE4.out H4.out
          | false =>
          cases r2 : xt2 != 2 with
          | true =>
            have HE4 : Hid (ecS M = ([], [], 30)) := HE3.out.trans (if_pos (by rw [kindB_tg (tg := xt2) r2]; simp))
            clear hce
            go_wp2
            refine wp_loop_rounds 3 ?_
            rw [rounds_succ]
            go_wp2
            rw [rounds_succ]
            go_wp2
            go_ret3
            exact ParseAns.no HE4.out H4.out
          | false =>
          cases xo2 with
          | true =>
            have HE4 : Hid (ecS M = ([], [], 30)) := HE3.out.trans (if_pos (by rw [show kindB xc2 xt2 true 2 false = false from kindB_co (c := false)]; simp))
            clear hce
            go_wp2
            refine wp_loop_rounds 3 ?_
            rw [rounds_succ]
            go_wp2
            rw [rounds_succ]
            go_wp2
            go_ret3
            exact ParseAns.no HE4.out H4.out
          | false =>
          have HE4 : Hid (ecS M = if (uintS xd1).2 ≠ 0 then ([], [], (uintS xd1).2) else if (uintS xd2).2 ≠ 0 then ([], [], (uintS xd2).2) else ((uintS xd1).1, (uintS xd2).1, 0)) := HE3.out.trans (if_neg (by rw [show kindB xc1 xt1 false 2 false = true from kindB_ok p1 r1, show kindB xc2 xt2 false 2 false = true from kindB_ok p2 r2]; decide))
          have HN1 : Hid (∀ W, Below w4.heap.size w4 W → Calls Try.prog 24 #[.slice da1 dn1 dc1] W fun e w' => UAns xd1 W w' e) := fun W h => RUint_any _ xd1 (below_sl h HY.out.1) HY.out.2.1 HY.out.2.2.1
          have HN2 : Hid (∀ W, Below w4.heap.size w4 W → Calls Try.prog 24 #[.slice da2 dn2 dc2] W fun e w' => UAns xd2 W w' e) := fun W h => RUint_any _ xd2 (below_sl h HY.out.2.2.2.1) HY.out.2.2.2.2.1 HY.out.2.2.2.2.2
          obtain ⟨⟨L1, m1⟩, hU1⟩ : ∃ U, uintS xd1 = U := ⟨_, rfl⟩
          obtain ⟨⟨L2, m2⟩, hU2⟩ : ∃ U, uintS xd2 = U := ⟨_, rfl⟩
          unfold UAns at HN1 HN2
          rw [hU1] at HN1
          rw [hU2] at HN2
          rw [hU1, hU2] at HE4
          clear hU1 hU2 HY H1 HS HE3
          go_wp2_with fail
          refine wp_loop_rounds 3 ?_
          rw [rounds_succ]
          go_wp2_with fail
          rw [rounds_succ]
          go_wp2_with fail
          rw [rounds_succ]
          go_wp2_with fail
          refine (HN1.out _ (Below.refl _ _)).mono ?_
          rintro e w5 ⟨⟨rr, rfl, hr⟩, hb5⟩
          have H5 : Hid (Sl .u32 w5 rr L1 ∧ Below w4.heap.size w4 w5) := ⟨hr, hb5⟩
          obtain ⟨g5, g6, g7, g8, g9, g3⟩ := hce.out w5 hb5
          clear hr hb5 g5 g6 g7 g9 g3 e0 e1 e2 e3 e4 e5 e6 e7 e8 e9 p1 r1 p2 r2
          simp only []
          by_cases h1 : m1 = 0
          · subst h1
            replace HE4 : Hid (ecS M = if m2 ≠ 0 then ([], [], m2) else (L1, L2, 0)) := HE4.out.trans (if_neg (by simp))
            go_wp2_with fail
            refine (HN2.out _ H5.out.2).mono ?_
            rintro e w6 ⟨⟨rs, rfl, hs⟩, hb6⟩
            have H6 : Hid (Sl .u32 w6 rr L1 ∧ Sl .u32 w6 rs L2 ∧ Below w.heap.size w w6) := ⟨below_sl hb6 H5.out.1, hs, below_via (below_via H4.out H5.out.2 (Nat.le_refl _)) hb6 (Nat.le_refl _)⟩
            clear hs hb6 g8
            simp only []
            by_cases h2 : m2 = 0
            · subst h2
              replace HE4 : Hid (ecS M = (L1, L2, 0)) := HE4.out.trans (if_neg (by simp))
              go_wp2
              go_ret3
              unfold ParseAns
              rw [HE4.out]
              exact ⟨_, _, rfl, H6.out⟩
            · replace HE4 : Hid (ecS M = ([], [], m2)) := HE4.out.trans (if_pos h2)
              have hq : (m2 != 0) = true := by simpa using h2
              go_wp2
              go_ret3
              exact ParseAns.no HE4.out H6.out.2.2
          · replace HE4 : Hid (ecS M = ([], [], m1)) := HE4.out.trans (if_pos h1)
            have hq : (m1 != 0) = true := by simpa using h1
            go_wp2
            go_ret3
            exact ParseAns.no HE4.out (below_via H4.out H5.out.2 (Nat.le_refl _))
        · have hq : ((k : Int) != 2) = true := by simp; omega
          have HE3 : Hid (ecS M = ([], [], 30)) := HE2.out.trans (by
            match Y, hk with
            | [], _ => rfl
            | [_], _ => rfl
            | [_, _], h => exact absurd h.symm hk2
            | _ :: _ :: _ :: _, _ => rfl)
          clear hm hrows HL HE2 hk
          go_wp2
          go_ret3
          exact ParseAns.no HE3.out H4.out
  · have hq : (oe != 0) = true := by simpa using h0
    replace HE : Hid (ecS M = ([], [], oe)) := HE.out.trans (if_pos h0)
    go_wp2
    go_ret3
    exact ParseAns.no HE.out (below_via H1.out.2 (al1 _) (Nat.le_refl _))
end Go.Proofs.Ytedoghjefdkmaaa
/-
  Der: small numbers there and back, without a walk.
-/
namespace Go.Proofs.Ytedoghjefdkmaaa
open Go.RowKit
theorem iv_pI {n : Int} {m : Nat} (h1 : 1 ≤ m) (hp : pk n (m - 1)) : ∀ i, i ≤ m → iv (pI n m) i = qs n (m - i)
  | 0, _ => by
    show (if 128 ≤ (pI n m).getD 0 0 then (-1 : Int) else 0) = qs n (m - 0)
    rw [pI_get n m 0 (by omega)]
    unfold pk at hp
    rw [rsI_qs] at hp
    obtain ⟨d, rfl⟩ : ∃ d, m = d + 1 := ⟨m - 1, by omega⟩
    rw [show d + 1 - 1 - 0 = d by omega, show d + 1 - 0 = d + 1 by omega]
    rw [show d + 1 - 1 = d by omega] at hp
    show _ = qs n d / 256
    obtain ⟨a, ha⟩ : ∃ a, qs n d = a := ⟨_, rfl⟩
    rw [ha] at hp ⊢
    split <;> omega
  | i + 1, hi => by
    show 256 * iv (pI n m) i + (pI n m).getD i 0 = _
    rw [iv_pI h1 hp i (by omega), pI_get n m i (by omega), show m - i = (m - (i + 1)) + 1 by omega, show m - 1 - i = m - (i + 1) by omega]
    show 256 * (qs n (m - (i + 1)) / 256) + _ = _
    omega
theorem int_there {n : Int} {m : Nat} (h : IsM n m) : intV (pI n m) = n ∧ intE (pI n m) = 0 := by
  have hok := (int_pI h.1 h.2.2.1).2 h.2.2.2
  refine ⟨?_, ?_⟩
  · unfold intV
    rw [if_pos ⟨hok, by rw [pI_len]; exact h.2.1⟩, pI_len, iv_pI h.1 h.2.2.1 m (Nat.le_refl _), Nat.sub_self]
    rfl
  · unfold intE
    rw [if_neg (by rw [hok]; simp), if_neg (by rw [pI_len]; have := h.2.1; omega)]
theorem qs_iv {X : List Int} (hU : U8s X) (L : Nat) : ∀ d, d ≤ L → qs (iv X L) d = iv X (L - d)
  | 0, _ => rfl
  | d + 1, hd => by
    show qs (iv X L) d / 256 = _
    rw [qs_iv hU L d (by omega), show L - d = (L - (d + 1)) + 1 by omega]
    show (256 * iv X (L - (d + 1)) + X.getD (L - (d + 1)) 0) / 256 = _
    have h := hU.at (L - (d + 1))
    unfold U8 at h
    omega
theorem pI_iv {X : List Int} (hU : U8s X) : pI (iv X X.length) X.length = X := by
  refine List.ext_getElem (pI_len _ _) (fun i h1 h2 => ?_)
  have h := pI_get (iv X X.length) X.length i h2
  rw [List.getD_eq_getElem?_getD, List.getElem?_eq_getElem h1, qs_iv hU _ _ (by omega), show X.length - (X.length - 1 - i) = i + 1 by omega] at h
  have e : iv X (i + 1) = 256 * iv X i + X.getD i 0 := rfl
  have hb := hU.at i
  unfold U8 at hb
  rw [e] at h
  have h3 : X.getD i 0 = X[i] := by rw [List.getD_eq_getElem?_getD, List.getElem?_eq_getElem h2]; rfl
  rw [h3] at h hb
  simp only [Option.getD_some] at h
  omega
theorem int_back {X : List Int} (hU : U8s X) (hok : intOk X = true) (hl : X.length ≤ 8) : IsM (iv X X.length) X.length := by
  have h1 := intOk_ne hok
  have hp : pk (iv X X.length) (X.length - 1) := by
    unfold pk
    rw [rsI_qs, qs_iv hU _ _ (by omega), show X.length - (X.length - 1) = 1 by omega]
    have h := iv_bd hU 0
    simp only [Nat.pow_zero, Nat.zero_add] at h
    omega
  refine ⟨h1, hl, hp, (int_pI h1 hp).1 ?_⟩
  rw [pI_iv hU]; exact hok
end Go.Proofs.Ytedoghjefdkmaaa
/-
  Der: the bytes of a number that is not below 0.
-/
namespace Go.Proofs.Ytedoghjefdkmaaa
open Go.RowKit
/-- So many bytes it takes, whatever its size. -/
def IsU (n : Int) (m : Nat) : Prop := 1 ≤ m ∧ pk n (m - 1) ∧ (m = 1 ∨ ¬ pk n (m - 2))
theorem IsU.uniq {n : Int} {m m' : Nat} (h : IsU n m) (h' : IsU n m') : m = m' := by
  obtain ⟨a1, a3, a4⟩ := h
  obtain ⟨b1, b3, b4⟩ := h'
  rcases Nat.lt_trichotomy m m' with hlt | heq | hgt
  · rcases b4 with b4 | b4
    · omega
    · have := pk_more a3 (m' - 2 - (m - 1))
      rw [show m - 1 + (m' - 2 - (m - 1)) = m' - 2 by omega] at this
      exact absurd this b4
  · exact heq
  · rcases a4 with a4 | a4
    · omega
    · have := pk_more b3 (m - 2 - (m' - 1))
      rw [show m' - 1 + (m - 2 - (m' - 1)) = m - 2 by omega] at this
      exact absurd this a4
theorem qs_nat (N : Nat) : ∀ d, qs (N : Int) d = ((N / 2 ^ (8 * d) : Nat) : Int)
  | 0 => by simp [qs]
  | d + 1 => by
    show qs (N : Int) d / 256 = _
    rw [qs_nat N d, show 8 * (d + 1) = 8 * d + 8 by omega, Nat.pow_add, ← Nat.div_div_eq_div_mul]
    rfl
theorem pk_nat (N j : Nat) : pk (N : Int) j ↔ N < 2 ^ (8 * j + 7) := by
  unfold pk
  rw [rsI_qs, qs_nat]
  have h0 : N / 2 ^ (8 * j) / 128 = N / 2 ^ (8 * j + 7) := by rw [Nat.pow_add, ← Nat.div_div_eq_div_mul]
  have h1 : ((N / 2 ^ (8 * j) : Nat) : Int) / 128 = ((N / 2 ^ (8 * j + 7) : Nat) : Int) := by rw [← h0]; rfl
  rw [h1]
  have h2 : N / 2 ^ (8 * j + 7) = 0 ↔ N < 2 ^ (8 * j + 7) := by
    rw [Nat.div_eq_zero_iff]
    have : 0 < 2 ^ (8 * j + 7) := Nat.two_pow_pos _
    omega
  rw [← h2]
  obtain ⟨Q, hQ⟩ : ∃ Q, N / 2 ^ (8 * j + 7) = Q := ⟨_, rfl⟩
  rw [hQ]
  clear h0 h1 h2 hQ
  omega
theorem isU_bits (N : Nat) : IsU (N : Int) (bitLen N / 8 + 1) := by
  obtain ⟨l, hl⟩ : ∃ l, bitLen N = l := ⟨_, rfl⟩
  have hs := bitLen_spec N
  rw [hl] at hs ⊢
  refine ⟨by omega, ?_, ?_⟩
  · rw [pk_nat]
    exact Nat.lt_of_lt_of_le hs.1 (Nat.pow_le_pow_right (by decide) (by omega))
  · by_cases h : l / 8 + 1 = 1
    · exact .inl h
    · right
      rw [pk_nat]
      have h2 := hs.2 (by first | omega | (intro h0; subst h0; have : bitLen 0 = 0 := rfl; omega))
      have h3 : 2 ^ (8 * (l / 8 + 1 - 2) + 7) ≤ 2 ^ (l - 1) := Nat.pow_le_pow_right (by decide) (by omega)
      omega
/-- A limb's byte is the number's. -/
theorem limb_byte {A : List Int} (hu : U32s A) (i : Nat) : A.getD (i / 4) 0 / 2 ^ (i % 4 * 8) % 256 = qs (val A) i % 256 := by
  have h := getD_div A (i / 4) hu
  have h0 := val_nonneg hu
  have h1 := hu.at (i / 4)
  obtain ⟨N, hN⟩ := Int.eq_ofNat_of_zero_le h0
  obtain ⟨z, hz⟩ := Int.eq_ofNat_of_zero_le h1.1
  rw [hN, hz] at h
  rw [hN, hz, qs_nat]
  simp only [Int.toNat_natCast] at h
  have e : z / 2 ^ (i % 4 * 8) % 256 = N / 2 ^ (8 * i) % 256 := by
    rw [← h, show 8 * i = 32 * (i / 4) + i % 4 * 8 by omega, Nat.pow_add, ← Nat.div_div_eq_div_mul]
    obtain ⟨M, hM⟩ : ∃ M, N / 2 ^ (32 * (i / 4)) = M := ⟨_, rfl⟩
    rw [hM]
    have h4 : i % 4 = 0 ∨ i % 4 = 1 ∨ i % 4 = 2 ∨ i % 4 = 3 := by omega
    rcases h4 with h4 | h4 | h4 | h4 <;> rw [h4] <;> omega
  have e2 : (z : Int) / 2 ^ (i % 4 * 8) % 256 = ((z / 2 ^ (i % 4 * 8) % 256 : Nat) : Int) := by
    have h4 : i % 4 = 0 ∨ i % 4 = 1 ∨ i % 4 = 2 ∨ i % 4 = 3 := by omega
    rcases h4 with h4 | h4 | h4 | h4 <;> rw [h4] <;> rfl
  rw [e2, e]
  rfl
theorem high_byte {A : List Int} (hu : U32s A) (i : Nat) (hi : A.length ≤ i / 4) : qs (val A) i % 256 = 0 := by
  have h0 := val_nonneg hu
  have h1 := val_lt hu
  obtain ⟨N, hN⟩ := Int.eq_ofNat_of_zero_le h0
  rw [hN, pow32] at h1
  rw [hN, qs_nat]
  have h2 : N < 2 ^ (32 * A.length) := by exact_mod_cast h1
  have h3 : N < 2 ^ (8 * i) := Nat.lt_of_lt_of_le h2 (Nat.pow_le_pow_right (by decide) (by omega))
  rw [Nat.div_eq_of_lt h3]
  rfl
end Go.Proofs.Ytedoghjefdkmaaa
/-
  Der: numbers that are not below 0 there and back, without a walk.
-/
namespace Go.Proofs.Ytedoghjefdkmaaa
open Go.RowKit
theorem pow_256 (k : Nat) : 2 ^ (8 * k) = 256 ^ k := by rw [Nat.pow_mul]
theorem bv_pI (N m : Nat) : ∀ k, k ≤ m → bv ((pI (N : Int) m).reverse.take k) = ((N % 256 ^ k : Nat) : Int)
  | 0, _ => by simp [bv, Nat.mod_one]
  | k + 1, hk => by
    have hl : k < (pI (N : Int) m).reverse.length := by rw [List.length_reverse, pI_len]; omega
    rw [bv_take_succ _ _ hl, bv_pI N m k (by omega)]
    have e : (pI (N : Int) m).reverse.getD k 0 = ((N / 256 ^ k % 256 : Nat) : Int) := by
      rw [List.getD_eq_getElem?_getD, List.getElem?_reverse (by rw [pI_len]; omega), pI_len, ← List.getD_eq_getElem?_getD, pI_get _ _ _ (by omega), show m - 1 - (m - 1 - k) = k by omega, qs_nat, pow_256]
      rfl
    rw [e, Nat.pow_succ, Nat.mod_mul, Int.natCast_add, Int.natCast_mul, Int.natCast_pow]
    rfl
theorem bv_full (N m : Nat) (h : N < 256 ^ m) : bv (pI (N : Int) m).reverse = (N : Int) := by
  have := bv_pI N m m (Nat.le_refl _)
  rw [List.take_of_length_le (by rw [List.length_reverse, pI_len]; exact Nat.le_refl _), Nat.mod_eq_of_lt h] at this
  exact this
theorem pI_drop (n : Int) (m : Nat) : (pI n (m + 1)).drop 1 = pI n m := by
  refine List.ext_getElem (by rw [List.length_drop, pI_len, pI_len]; omega) (fun i h1 h2 => ?_)
  rw [pI_len] at h2
  rw [List.getElem_drop]
  have a := pI_get n (m + 1) (1 + i) (by omega)
  have b := pI_get n m i h2
  rw [List.getD_eq_getElem?_getD, List.getElem?_eq_getElem (by rw [pI_len]; omega)] at a b
  rw [show m + 1 - 1 - (1 + i) = m - 1 - i by omega] at a
  exact a.trans b.symm
theorem uint_there {N m : Nat} (h : IsU (N : Int) m) (hm : m ≤ 2048) : uintS (pI (N : Int) m) = (lim N, 0) := by
  have hok := (int_pI h.1 h.2.1).2 h.2.2
  obtain ⟨d, rfl⟩ : ∃ d, m = d + 1 := ⟨m - 1, by have := h.1; omega⟩
  have hN := (pk_nat N _).1 h.2.1
  rw [Nat.add_sub_cancel, Nat.pow_add, pow_256] at hN
  have hq : N / 256 ^ d < 128 := by
    rw [Nat.div_lt_iff_lt_mul (Nat.pow_pos (by decide))]
    rw [Nat.mul_comm]; exact hN
  obtain ⟨Q, hQ⟩ : ∃ Q, N / 256 ^ d = Q := ⟨_, rfl⟩
  rw [hQ] at hq
  have h0 : (pI (N : Int) (d + 1)).getD 0 0 = (Q : Int) := by
    rw [pI_get _ _ _ (by omega), show d + 1 - 1 - 0 = d by omega, qs_nat, pow_256, hQ]
    omega
  unfold uintS
  rw [if_neg (by rw [hok]; simp), h0, if_neg (by omega)]
  by_cases hz : Q = 0
  · have hlt : N < 256 ^ d := by
      rw [← hQ, Nat.div_eq_zero_iff] at hz
      have : 0 < 256 ^ d := Nat.pow_pos (by decide)
      omega
    rw [if_pos (by omega), pI_drop]
    unfold fromS
    rw [if_neg (by rw [pI_len]; omega), bv_full N d hlt, Int.toNat_natCast]
  · have hlt : N < 256 ^ (d + 1) := by
      rw [Nat.pow_succ]
      have : 0 < 256 ^ d := Nat.pow_pos (by decide)
      omega
    rw [if_neg (by omega)]
    unfold fromS
    rw [if_neg (by rw [pI_len]; omega), bv_full N (d + 1) hlt, Int.toNat_natCast]
end Go.Proofs.Ytedoghjefdkmaaa
/-
  Der: any number in bytes of seven bits.
-/
namespace Go.Proofs.Ytedoghjefdkmaaa
open Go.RowKit
/-- A group of seven bits that another follows. -/
def gr (n j : Nat) : Int := ((n / 128 ^ j % 128 + 128 : Nat) : Int)
/-- The first i of the groups k, k - 1, .. -/
def tp (n k : Nat) : Nat → List Int
  | 0 => []
  | i + 1 => tp n k i ++ [gr n (k - i)]
def sev (k n : Nat) : List Int := tp n k k ++ [((n % 128 : Nat) : Int)]
theorem tp_len (n k : Nat) : ∀ i, (tp n k i).length = i
  | 0 => rfl
  | i + 1 => by show (tp n k i ++ [_]).length = _; rw [List.length_append, tp_len n k i]; rfl
theorem or_128 (x : Int) (h : U8 x) : bits .or .u8 x 128 = x % 128 + 128 := by
  obtain ⟨h0, h1⟩ := h
  obtain ⟨k, rfl⟩ := Int.eq_ofNat_of_zero_le h0
  have : ∀ y : Fin 256, bits .or .u8 ((y : Nat) : Int) 128 = ((y : Nat) : Int) % 128 + 128 := by decide +kernel
  exact this ⟨k, by omega⟩
theorem and_127w (z : Int) (h0 : 0 ≤ z) (h1 : z < 18446744073709551616) : bits .and .u64 z 127 = z % 128 := by go_bits2
theorem wrapU8 (z : Int) (h0 : 0 ≤ z) (h1 : z < 256) : IntKind.u8.wrap z = z := by rw [IntKind.wrap_u8]; omega
theorem div_sev (n j s : Nat) (hs : s = 7 * j) : (n : Int) / 2 ^ s = ((n / 128 ^ j : Nat) : Int) := by
  subst hs
  rw [Int.pow_mul]
  simp
theorem Row.drew {k : IntKind} {e : TypeId} {B : Nat} {w : World} {v : Value} {xs : List Int} (h : Row k e B w v xs) : Row k e B w.drew v xs :=
  h.below ⟨rfl, rfl, rfl, Nat.le_refl _, fun _ _ => rfl⟩
set_option maxRecDepth 20000 in
set_option maxHeartbeats 2000000 in
theorem sevens_any {w : World} (B : Nat) (v : Value) (X : List Int) (n k : Nat) (hr : Row .u8 5 B w v X) (hB : B ≤ w.heap.size) (hk : n / 128 ^ k < 128) (hk1 : ∀ j, j < k → 128 ≤ n / 128 ^ j) (hk8 : k ≤ 8) (hn : n < 9223372036854775808) (hX : X.length ≤ 100000000) :
    Calls Try.prog 82 #[v, .int .u64 n] w fun e w' => ∃ r, e = .returned r ∧ Row .u8 5 B w' r (X ++ sev k n) ∧ Below B w w' := by
  have HR : Hid (Row .u8 5 B w v X) := hr
  have HK : Hid (n / 128 ^ k < 128 ∧ ∀ j, j < k → 128 ≤ n / 128 ^ j) := ⟨hk, hk1⟩
  clear hr hk hk1
  have n0 : (0 : Int) ≤ (n : Int) := by omega
  have a127 := and_127w (n : Int) n0 (by omega)
  have w127 : IntKind.u8.wrap ((n : Int) % 128) = (n : Int) % 128 := wrapU8 _ (by omega) (by omega)
  go_enter Try.func82, Try.ntmps82
  go_wp2_with fail
  go_loopw [5] (fun sv wr => ∃ j s : Nat, sv = .int .i64 s ∧ s = 7 * j ∧ j ≤ k ∧ w = wr) (fun sv _ => 7 * k - (intOf sv).toNat)
  case atStart => exact ⟨0, 0, rfl, rfl, by omega, rfl⟩
  case round =>
    obtain ⟨j, s, rfl, hs, hj, rfl⟩ := hrel
    have HS : Hid (s = 7 * j) := hs
    obtain ⟨q, hq⟩ : ∃ q, n / 128 ^ j = q := ⟨_, rfl⟩
    have HQ : Hid (n / 128 ^ j = q) := hq
    have hd := div_sev n j s hs
    rw [hq] at hd
    clear hq
    have s0 : (s : Int) ≤ 56 := by omega
    clear hs
    by_cases hlt : j < k
    · have hge : (128 : Int) ≤ (q : Int) := by have := HK.out.2 j hlt; rw [HQ.out] at this; omega
      go_wp2
      go_roundw
      case rel => exact ⟨j + 1, s + 7, by go_num, by have := HS.out; omega, by omega, trivial⟩
      case measure => have := HS.out; simp [intOf]; omega
    · obtain rfl : j = k := by omega
      have hge : ¬ (128 : Int) ≤ (q : Int) := by have := HK.out.1; rw [HQ.out] at this; omega
      go_wp2
      go_loopw [0, 5] (fun bv sv wr => ∃ (i s : Nat) (b0 : Value), b0 = bv ∧ sv = .int .i64 s ∧ s + 7 * i = 7 * j ∧ Row .u8 5 B wr b0 (X ++ tp n j i) ∧ Below B w wr) (fun _ sv _ => (intOf sv).toNat)
      case atStart => exact ⟨0, s, _, rfl, rfl, by have := HS.out; omega, by simpa [tp] using HR.out, Below.refl _ _⟩
      case round =>
        clear hd s0 hge
        obtain ⟨i, s', b0, rfl, rfl, hs', hr, hb⟩ := hrel
        have H1 : Hid (Row .u8 5 B wr b0 (X ++ tp n j i) ∧ Below B w wr ∧ s' + 7 * i = 7 * j) := ⟨hr, hb, hs'⟩
        by_cases h0 : 0 < s'
        · have h0I : (0 : Int) < (s' : Int) := by omega
          have h7 : 7 ≤ s' := by omega
          obtain ⟨q', hq'⟩ : ∃ q, n / 128 ^ (j - i) = q := ⟨_, rfl⟩
          have hd := div_sev n (j - i) s' (by omega)
          rw [hq'] at hd
          have s0 : (s' : Int) ≤ 56 := by omega
          obtain ⟨x, hx⟩ : ∃ x : Int, IntKind.u8.wrap (q' : Int) = x := ⟨_, rfl⟩
          have ho : bits .or .u8 x 128 = gr n (j - i) := by
            rw [IntKind.wrap_u8] at hx
            rw [or_128 x ⟨by omega, by omega⟩]
            unfold gr
            rw [hq']
            omega
          obtain ⟨y, hy⟩ : ∃ y : Int, gr n (j - i) = y := ⟨_, rfl⟩
          have HY : Hid (gr n (j - i) = y) := hy
          rw [hy] at ho
          clear hq' hy hr hb hs'
          go_wp2_with (at_builtin; refine wpList_ap rfl (.tmp 16) (.tmp 22) 22 22 rfl .u8 5 1 Try.und8 Try.info8 (by decide) B _ (X ++ tp n j i) rfl (H1.out.1.alloc _) _ [y] rfl (src_sl Try.und8 (new1 y)) (by have := tp_len n j i; have := H1.out.2.2; simp; omega) (by have := H1.out.2.1.size; simp; omega) ?_; intro v1 w1 hr hg)
          have hb1 : Below B w w1 := (H1.out.2.1.trans ((al1 _).mono (by have := H1.out.2.1.size; omega))).trans (hg.below (H1.out.1.alloc _) (by have := H1.out.2.1.size; simp; omega))
          have hr' : Row .u8 5 B w1 v1 (X ++ tp n j (i + 1)) := by
            show Row _ _ _ _ _ (X ++ (tp n j i ++ [gr n (j - i)]))
            rw [HY.out, ← List.append_assoc]; exact hr
          have H2 : Hid (Row .u8 5 B w1 v1 (X ++ tp n j (i + 1)) ∧ Below B w w1) := ⟨hr', hb1⟩
          clear hr hg hb1 hr'
          go_roundw
          case rel => exact ⟨i + 1, s' - 7, _, rfl, by go_num, by have := H1.out.2.2; omega, H2.out.1, H2.out.2⟩
          case measure => simp [intOf]; omega
        · have h0I : ¬ (0 : Int) < (s' : Int) := by omega
          obtain rfl : i = j := by omega
          obtain ⟨y, hy⟩ : ∃ y : Int, (n : Int) % 128 = y := ⟨_, rfl⟩
          have HY : Hid ((n : Int) % 128 = y) := hy
          rw [hy] at a127 w127
          clear hr hb hs' hy
          go_wp2_with (at_builtin; refine wpList_ap rfl (.tmp 24) (.tmp 28) 22 22 rfl .u8 5 1 Try.und8 Try.info8 (by decide) B _ (X ++ tp n i i) rfl (H1.out.1.alloc _) _ [y] rfl (src_sl Try.und8 (new1 y)) (by have := tp_len n i i; simp; omega) (by have := H1.out.2.1.size; simp; omega) ?_; intro v1 w1 hr hg)
          have hb1 : Below B w w1 := (H1.out.2.1.trans ((al1 _).mono (by have := H1.out.2.1.size; omega))).trans (hg.below (H1.out.1.alloc _) (by have := H1.out.2.1.size; simp; omega))
          go_ret
          refine ⟨_, rfl, ?_, hb1⟩
          unfold sev
          rw [← List.append_assoc]
          have e : ((n % 128 : Nat) : Int) = y := by have := HY.out; omega
          rw [e]; exact hr
end Go.Proofs.Ytedoghjefdkmaaa
