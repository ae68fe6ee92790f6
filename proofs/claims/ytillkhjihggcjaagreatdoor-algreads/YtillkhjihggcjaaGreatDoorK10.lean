/-
  Der: the reference's Split of any slice, its One; the same rows.
-/
import Derived.Test.YtillkhjihggcjaaGreatDoorK9
namespace Go.Proofs.YtillkhjihggcjaaGreatDoor
open Go.RowKit
theorem Rw.upd {k : IntKind} {e : TypeId} {B : Nat} {w w' : World} {v : Value} {xs : List Int} {g : Nat} (h : Rw k e B w v xs) (hu : Upd w w' g) (hg : g < B) : Rw k e B w' v xs := by
  rcases h with h | h
  · exact .inl (h.upd hu hg)
  · exact .inr h
set_option maxRecDepth 20000 in
set_option maxHeartbeats 4000000 in
theorem RSplit_any {w : World} (v : Value) (M : List Int) (hv : Sl .u8 w v M) (uM : U8s M) (hl : M.length ≤ 9223372036854775807) :
    Calls Tryz.prog 41 #[v] w fun e w' => SplitOutR M.length w.heap.size w' e (splitS M) ∧ Below w.heap.size w w' := by
  obtain ⟨a, c, rfl, hc, h⟩ := hv
  by_cases hn : M.length ≤ 16777216
  · by_cases hne : M = []
    · subst hne
      have HE : Hid (splitS [] = .inr []) := rfl
      rw [HE.out]
      simp only [List.length_nil]
      go_enter Tryz.func41, Tryz.ntmps41
      go_wp2_with fail
      refine wp_loop_rounds 1 ?_
      rw [rounds_succ]
      go_wp2
      go_ret3
      exact ⟨⟨_, rfl, TlvR.nil _ _⟩, Below.refl _ _⟩
    · rcases h with h | ⟨b, off, rfl, hb, hr⟩
      · exact absurd h hne
      · exact RSplit_ne b off M.length c M hr uM rfl hn hc hb
  · have HE : Hid (splitS M = .inl (3, 0)) := by show _ = _; unfold splitS; rw [if_pos (by omega)]
    have hnI : (16777216 : Int) < (M.length : Int) := by omega
    rw [HE.out]
    obtain ⟨n, hn⟩ : ∃ n, M.length = n := ⟨_, rfl⟩
    rw [hn] at hnI ⊢
    clear h
    go_enter Tryz.func41, Tryz.ntmps41
    go_wp2
    go_ret3
    exact ⟨rfl, Below.refl _ _⟩
def OneOutR (B : Nat) (w : World) (e : Ending) (o : El × Int) : Prop :=
  ∃ a1 n1 c1 a2 n2 c2, e = .returned (.tuple #[.agg #[.int .i64 o.1.cl, .int .i64 o.1.tg, .bool o.1.co, .slice a1 n1 c1, .slice a2 n2 c2], .int .i64 o.2]) ∧ Rw .u8 5 B w (.slice a1 n1 c1) o.1.d ∧ Rw .u8 5 B w (.slice a2 n2 c2) o.1.r
theorem OneOutR.no (B : Nat) (w : World) (er : Int) (e : Ending) (h : e = .returned (.tuple #[nilT, .int .i64 er])) : OneOutR B w e (noEl, er) :=
  ⟨none, 0, 0, none, 0, 0, h, .inl (Row.nil _ _ _ _), .inl (Row.nil _ _ _ _)⟩
set_option maxRecDepth 20000 in
set_option maxHeartbeats 4000000 in
theorem ROne_any {w : World} (v : Value) (M : List Int) (hv : Sl .u8 w v M) (uM : U8s M) (hl : M.length ≤ 9223372036854775807) :
    Calls Tryz.prog 18 #[v] w fun e w' => OneOutR w.heap.size w' e (oneS (splitS M)) ∧ Below w.heap.size w w' := by
  have HX : Hid (Sl .u8 w v M ∧ U8s M ∧ M.length ≤ 9223372036854775807) := ⟨hv, uM, hl⟩
  clear hv uM hl
  obtain ⟨S, hS⟩ : ∃ S, splitS M = S := ⟨_, rfl⟩
  have HS : Hid (splitS M = S) := hS
  rw [hS]
  clear hS
  go_enter Tryz.func18, Tryz.ntmps18
  go_wp2_with fail
  refine (RSplit_any v M (sl_alloc HX.out.1 _) HX.out.2.1 HX.out.2.2).mono ?_
  rintro e w1 ⟨ha, hb⟩
  rw [HS.out] at ha
  have hB1 : Blk 24 w1 w.heap.size [.int .i64 0, .int .i64 0, .bool false, .slice none 0 0, .slice none 0 0] := below_blk hb (by simp) (Blk.new _ w _)
  have H1 : Hid (Below w.heap.size w w1 ∧ Blk 24 w1 w.heap.size [.int .i64 0, .int .i64 0, .bool false, .slice none 0 0, .slice none 0 0]) := ⟨below_via (al1 _) hb (Nat.le_refl _), hB1⟩
  have d0 : w1.cell? ⟨w.heap.size, 0, none⟩ = some (.int .i64 0) := hB1.cell 0
  have d1 : w1.cell? ⟨w.heap.size, 1, none⟩ = some (.int .i64 0) := hB1.cell 1
  have d2 : w1.cell? ⟨w.heap.size, 2, none⟩ = some (.bool false) := hB1.cell 2
  have d3 : w1.cell? ⟨w.heap.size, 3, none⟩ = some (.slice none 0 0) := hB1.cell 3
  have d4 : w1.cell? ⟨w.heap.size, 4, none⟩ = some (.slice none 0 0) := hB1.cell 4
  have f0 := hB1.frozen 0
  have f1 := hB1.frozen 1
  have f2 := hB1.frozen 2
  have f3 := hB1.frozen 3
  have f4 := hB1.frozen 4
  have hs1 : w.heap.size < w1.heap.size := hB1.lt
  clear hb hB1
  have hB : Hid (Blk 24 (((((w1.setCell ⟨w.heap.size, 0, none⟩ (.int .i64 0)).setCell ⟨w.heap.size, 1, none⟩ (.int .i64 0)).setCell ⟨w.heap.size, 2, none⟩ (.bool false)).setCell ⟨w.heap.size, 3, none⟩ (.slice none 0 0)).setCell ⟨w.heap.size, 4, none⟩ (.slice none 0 0)) w.heap.size [.int .i64 0, .int .i64 0, .bool false, .slice none 0 0, .slice none 0 0]) :=
    ((((H1.out.2.set 0 (.int .i64 0)).set 1 (.int .i64 0)).set 2 (.bool false)).set 3 (.slice none 0 0)).set 4 (.slice none 0 0)
  have hU : Hid (Upd w1 (((((w1.setCell ⟨w.heap.size, 0, none⟩ (.int .i64 0)).setCell ⟨w.heap.size, 1, none⟩ (.int .i64 0)).setCell ⟨w.heap.size, 2, none⟩ (.bool false)).setCell ⟨w.heap.size, 3, none⟩ (.slice none 0 0)).setCell ⟨w.heap.size, 4, none⟩ (.slice none 0 0)) w.heap.size) :=
    ((((Upd.set w1 w.heap.size 0 (.int .i64 0)).trans (Upd.set _ _ 1 (.int .i64 0))).trans (Upd.set _ _ 2 (.bool false))).trans (Upd.set _ _ 3 (.slice none 0 0))).trans (Upd.set _ _ 4 (.slice none 0 0))
  cases S with
  | inl pq =>
    obtain ⟨er, a⟩ := pq
    have hne0 := splitS_err HX.out.2.1 HS.out
    have hne : (er != 0) = true := by simpa using hne0
    obtain rfl : e = .returned (.tuple #[.slice none 0 0, .int .i64 er, .int .i64 a]) := ha
    go_wp2
    refine bodyPost_ret (results_blk2 rfl rfl hB.out Tryz.underlying24 rfl Tryz.sizeT rfl) rfl ⟨?_, hU.out.below H1.out.1 H1.out.1.size (Nat.le_refl _)⟩
    exact OneOutR.no _ _ _ _ rfl
  | inr L =>
    obtain ⟨v2, rfl, ht⟩ : ∃ v, e = .returned (.tuple #[v, .int .i64 0, .int .i64 M.length]) ∧ TlvR (w.alloc (.cells #[.int .i64 0, .int .i64 0, .bool false, .slice none 0 0, .slice none 0 0] 24)).heap.size w1 v L := ha
    obtain ⟨Y, hYL, hm, hrows⟩ := ht
    obtain ⟨al, cl, hv2⟩ := hm.ne
    obtain ⟨k, hk⟩ : ∃ k, Y.length = k := ⟨_, rfl⟩
    rw [hk] at hv2
    subst hv2
    have hlen := hYL
    cases Y with
    | nil =>
      subst hYL
      have hk0 : 0 = k := hk
      subst hk0
      go_wp2
      refine bodyPost_ret (results_blk2 rfl rfl hB.out Tryz.underlying24 rfl Tryz.sizeT rfl) rfl ⟨?_, hU.out.below H1.out.1 H1.out.1.size (Nat.le_refl _)⟩
      exact OneOutR.no _ _ _ _ rfl
    | cons y Y =>
      cases Y with
      | cons y2 Y =>
        subst hYL
        have hk1 : (1 : Int) < (k : Int) := by simp at hk; omega
        have hk2 : ((k : Int) == 0) = false := by simp; omega
        clear hk hm hrows hlen
        go_wp2
        refine bodyPost_ret (results_blk2 rfl rfl hB.out Tryz.underlying24 rfl Tryz.sizeT rfl) rfl ⟨?_, hU.out.below H1.out.1 H1.out.1.size (Nat.le_refl _)⟩
        exact OneOutR.no _ _ _ _ rfl
      | nil =>
        subst hYL
        have hk1 : 1 = k := hk
        subst hk1
        clear hk hlen
        obtain ⟨⟨xc, xt, xo, xd, xr⟩, yd, yr⟩ := y
        have hr1 := hrows _ (List.mem_singleton_self _)
        obtain ⟨a1, c1, hd⟩ := hr1.1.ne
        obtain ⟨a2, c2, hr⟩ := hr1.2.ne
        obtain ⟨n1, hn1⟩ : ∃ n1, xd.length = n1 := ⟨_, rfl⟩
        obtain ⟨n2, hn2⟩ : ∃ n2, xr.length = n2 := ⟨_, rfl⟩
        simp only [] at hd hr
        rw [hn1] at hd
        rw [hn2] at hr
        subst hd
        subst hr
        clear hn1 hn2
        obtain ⟨bl, cl2, hv, hc2, hbl, hbv, hcells⟩ := hm.at (by simp)
        simp only [Value.slice.injEq] at hv
        obtain ⟨rfl, h11, rfl⟩ := hv
        clear h11
        have e0 : w1.cell? ⟨bl, 0, none⟩ = some (.int .i64 xc) := hcells 0 (by simp)
        have e1 : w1.cell? ⟨bl, 1, none⟩ = some (.int .i64 xt) := hcells 1 (by simp)
        have e2 : w1.cell? ⟨bl, 2, none⟩ = some (.bool xo) := hcells 2 (by simp)
        have e3 : w1.cell? ⟨bl, 3, none⟩ = some (.slice a1 n1 c1) := hcells 3 (by simp)
        have e4 : w1.cell? ⟨bl, 4, none⟩ = some (.slice a2 n2 c2) := hcells 4 (by simp)
        have H2 : Hid (Rw .u8 5 (w.heap.size + 1) w1 (.slice a1 n1 c1) xd ∧ Rw .u8 5 (w.heap.size + 1) w1 (.slice a2 n2 c2) xr) := ⟨by simpa using hr1.1, by simpa using hr1.2⟩
        clear hcells hr1 hm hrows hbl hbv hc2 hs1
        go_wp2
        have hB' := ((((H1.out.2.set 0 (.int .i64 xc)).set 1 (.int .i64 xt)).set 2 (.bool xo)).set 3 (.slice a1 n1 c1)).set 4 (.slice a2 n2 c2)
        have hU' := ((((Upd.set w1 w.heap.size 0 (.int .i64 xc)).trans (Upd.set _ _ 1 (.int .i64 xt))).trans (Upd.set _ _ 2 (.bool xo))).trans (Upd.set _ _ 3 (.slice a1 n1 c1))).trans (Upd.set _ _ 4 (.slice a2 n2 c2))
        refine bodyPost_ret (results_blk2 rfl rfl hB' Tryz.underlying24 rfl Tryz.sizeT rfl) rfl ⟨⟨a1, n1, c1, a2, n2, c2, rfl, ?_, ?_⟩, hU'.below H1.out.1 H1.out.1.size (Nat.le_refl _)⟩
        · exact (H2.out.1.upd hU' (Nat.lt_succ_self _)).mono (Nat.le_succ _)
        · exact (H2.out.2.upd hU' (Nat.lt_succ_self _)).mono (Nat.le_succ _)
end Go.Proofs.YtillkhjihggcjaaGreatDoor
/-
  Der: the law DerSplits.
-/
namespace Go.Proofs.YtillkhjihggcjaaGreatDoor
open Go.RowKit
def spE : Sp → Int
  | .inl (e, _) => e
  | .inr _ => 0
def spA (n : Nat) : Sp → Nat
  | .inl (_, a) => a
  | .inr _ => n
def spL : Sp → List El
  | .inl (_, _) => []
  | .inr L => L
theorem SplitAns.uni {M : List Int} {B : Nat} {w : World} {e : Ending} (h : SplitAns M B w e) : ∃ v, e = .returned (.tuple #[v, .int .i64 (spE (splitS M)), .int .i64 (spA M.length (splitS M))]) ∧ Tlvs B w v (spL (splitS M)) := by
  unfold SplitAns at h
  cases hS : splitS M with
  | inl pq => obtain ⟨er, a⟩ := pq; rw [hS] at h; exact ⟨_, h, Tlvs.nil _ _⟩
  | inr L => rw [hS] at h; exact h
theorem SplitOutR.uni {n : Nat} {S : Sp} {B : Nat} {w : World} {e : Ending} (h : SplitOutR n B w e S) : ∃ v, e = .returned (.tuple #[v, .int .i64 (spE S), .int .i64 (spA n S)]) ∧ TlvR B w v (spL S) := by
  cases S with
  | inl pq => obtain ⟨er, a⟩ := pq; exact ⟨_, h, TlvR.nil _ _⟩
  | inr L => exact h
theorem spl_small {M : List Int} (hM : U8s M) : ∀ f p L, M.length - p = f → L.length ≤ 65536 → (∀ y ∈ L, y.d.length ≤ M.length ∧ y.r.length ≤ M.length) → ∀ L', spl M p L = .inr L' → L'.length ≤ 65536 ∧ ∀ y ∈ L', y.d.length ≤ M.length ∧ y.r.length ≤ M.length := by
  intro f
  induction f using Nat.strongRecOn with
  | _ f ih =>
    intro p L hf hL hy L' h
    by_cases hp : p < M.length
    · by_cases hL2 : L.length < 65536
      · cases hE : elemS M p with
        | inl pq => obtain ⟨e', a'⟩ := pq; rw [spl_bad hp hL2 hE] at h; cases h
        | inr pq =>
          obtain ⟨t, j, E⟩ := pq
          have := elemS_ok hM hp hE
          rw [spl_ok hM hp hL2 hE] at h
          refine ih (M.length - E) (by omega) E _ rfl (by rw [List.length_append]; exact hL2) ?_ L' h
          intro y hy'
          rcases List.mem_append.1 hy' with hy' | hy'
          · exact hy y hy'
          · rw [List.mem_singleton] at hy'
            subst hy'
            refine ⟨?_, ?_⟩
            · show ((M.drop j).take (E - j)).length ≤ _; rw [List.length_take, List.length_drop]; omega
            · show ((M.drop p).take (E - p)).length ≤ _; rw [List.length_take, List.length_drop]; omega
      · rw [spl_many hp (by omega)] at h; cases h
    · rw [spl_end (by omega)] at h; cases h; exact ⟨hL, hy⟩
theorem splitS_small {M : List Int} (hM : U8s M) : (spL (splitS M)).length ≤ 65536 ∧ ∀ y ∈ spL (splitS M), y.d.length ≤ M.length ∧ y.r.length ≤ M.length := by
  cases hS : splitS M with
  | inl pq => obtain ⟨e, a⟩ := pq; exact ⟨by simp [spL], by simp [spL]⟩
  | inr L =>
    unfold splitS at hS
    split at hS
    · cases hS
    · exact spl_small hM _ 0 [] rfl (by simp) (by simp) L hS
theorem oneS_small {M : List Int} (hM : U8s M) : (oneS (splitS M)).1.d.length ≤ M.length ∧ (oneS (splitS M)).1.r.length ≤ M.length := by
  have h := (splitS_small hM).2
  cases hS : splitS M with
  | inl pq => obtain ⟨e, a⟩ := pq; simp [oneS, noEl]
  | inr L =>
    rw [hS] at h
    cases L with
    | nil => simp [oneS, noEl]
    | cons x L =>
      cases L with
      | nil => exact h x (by simp [spL])
      | cons y L => simp [oneS, noEl]
/-- A row of one element, just made. -/
theorem tlvS_one {w : World} {b : Nat} (x : El) {d r : Value} {cs : List Value} (hcs : cs = cell5 (x, d, r)) (hA : Blk 24 w b cs) (hd : Sl .u8 w d x.d) (hr : Sl .u8 w r x.r) : TlvS w (.slice (some ⟨b, 0, none⟩) 1 1) [x] := by
  subst hcs
  refine ⟨_, _, [(x, d, r)], rfl, Nat.le_refl _, rfl, .inr ⟨b, 0, rfl, hA.lt, fun i hi => ?_⟩, ?_⟩
  · rw [Nat.zero_add, hA.cell i]; simp [tlvCells]
  · intro y hy
    rw [List.mem_singleton] at hy
    subst hy
    exact ⟨hd, hr⟩
end Go.Proofs.YtillkhjihggcjaaGreatDoor
/-
  Alg: row, isPlain, readOid.
-/
namespace Go.Proofs.YtillkhjihggcjaaGreatDoor
open Go.RowKit
set_option maxRecDepth 20000
theorem isPlain_any {w : World} (x : El) (d r : Value) (t : Int) : Calls Tryz.prog 71 #[.agg #[.int .i64 x.cl, .int .i64 x.tg, .bool x.co, d, r], .int .i64 t] w fun e w' => e = .returned (.bool (isP x t)) ∧ Below w.heap.size w w' := by
  obtain ⟨cl, tg, co, xd, xr⟩ := x
  unfold isP
  simp only []
  by_cases h1 : cl = 0
  · by_cases h2 : tg = t
    · subst h1 h2
      cases co <;> (go_enter Tryz.func71, Tryz.ntmps71; go_wp2; go_ret; exact ⟨by simp, al1 _⟩)
    · have d2 : (tg == t) = false := by simpa using h2
      subst h1
      go_enter Tryz.func71, Tryz.ntmps71; go_wp2; go_ret; exact ⟨by simp [d2], al1 _⟩
  · have d1 : (cl == 0) = false := by simpa using h1
    go_enter Tryz.func71, Tryz.ntmps71; go_wp2; go_ret; exact ⟨by simp [d1], al1 _⟩
/-- What row tells. -/
def RowAns (B : Nat) (w : World) (e : Ending) : Option (List El) → Prop
  | none => ∃ a n c, e = .returned (.tuple #[.slice a n c, .bool false])
  | some L => ∃ v, e = .returned (.tuple #[v, .bool true]) ∧ Tlvs B w v L
set_option maxHeartbeats 1000000 in
theorem row_any {w : World} (x : El) (a1 : Option Addr) (n1 c1 : Nat) (r : Value) (hD : Sl .u8 w (.slice a1 n1 c1) x.d) (uD : U8s x.d) (lD : x.d.length ≤ 5000) :
    Calls Tryz.prog 55 #[.agg #[.int .i64 x.cl, .int .i64 x.tg, .bool x.co, .slice a1 n1 c1, r]] w fun e w' => RowAns w.heap.size w' e (rowS x) ∧ Below w.heap.size w w' := by
  obtain ⟨cl, tg, co, D, R⟩ := x
  simp only [] at hD uD lD ⊢
  obtain ⟨O, hO⟩ : ∃ O, rowS ⟨cl, tg, co, D, R⟩ = O := ⟨_, rfl⟩
  rw [hO]
  by_cases hy : (cl == 0 && tg == 16 && co) = true
  · have HR : Hid (O = rowO (splitS D)) := by show _ = _; rw [← hO]; unfold rowS; rw [if_pos hy]
    obtain ⟨h1, h2, h3⟩ : cl = 0 ∧ tg = 16 ∧ co = true := by simp at hy; exact ⟨hy.1.1, hy.1.2, hy.2⟩
    subst h1 h2 h3
    have HS : Hid (∀ W, Below w.heap.size w W → Calls Tryz.prog 75 #[.slice a1 n1 c1] W fun e w' => (∃ v, e = .returned (.tuple #[v, .int .i64 (spE (splitS D)), .int .i64 (spA D.length (splitS D))]) ∧ Tlvs W.heap.size w' v (spL (splitS D))) ∧ Below W.heap.size W w') := fun W h => (SplitS_any _ D (below_sl h hD) uD (by omega)).mono fun e w' ⟨ha, hb⟩ => ⟨ha.uni, hb⟩
    have HE : Hid (∀ er at', splitS D = .inl (er, at') → er ≠ 0) := fun er at' h => splitS_err uD h
    clear hD uD lD hy hO
    go_enter Tryz.func55, Tryz.ntmps55
    go_wp2_with fail
    refine (HS.out _ (al1 _)).mono ?_
    rintro e w1 ⟨⟨v, rfl, hv⟩, hb⟩
    obtain ⟨av, cv, hvv⟩ : ∃ a c, v = .slice a (spL (splitS D)).length c := by
      obtain ⟨Y, h1, h2, _⟩ := hv; obtain ⟨a, c, h3⟩ := h2.ne; rw [← h1, List.length_map]; exact ⟨a, c, h3⟩
    obtain ⟨nv, hnv⟩ : ∃ n, (spL (splitS D)).length = n := ⟨_, rfl⟩
    rw [hnv] at hvv
    subst hvv
    have H1 : Hid (Below w.heap.size w w1 ∧ Tlvs w.heap.size w1 (.slice av nv cv) (spL (splitS D))) := ⟨below_via (al1 _) hb (Nat.le_refl _), hv.mono (by simp)⟩
    clear hv hb hnv
    cases hS : splitS D with
    | inl pq =>
      obtain ⟨er, at'⟩ := pq
      have h0 := HE.out er at' hS
      have h00 : (er == 0) = false := by simpa using h0
      have HO : Hid (O = none) := by show _ = _; rw [HR.out, hS]; rfl
      clear HS HE HR
      rw [show spE (.inl (er, at')) = er from rfl]
      obtain ⟨z, hz⟩ : ∃ z, (spA D.length (.inl (er, at')) : Nat) = z := ⟨_, rfl⟩
      rw [hz]
      clear hz hS
      go_wp2
      go_ret2
      rw [HO.out]
      exact ⟨⟨av, nv, cv, rfl⟩, H1.out.1⟩
    | inr L =>
      have H2 : Hid (Below w.heap.size w w1 ∧ Tlvs w.heap.size w1 (.slice av nv cv) L) := ⟨H1.out.1, by have := H1.out.2; rw [hS] at this; exact this⟩
      have HO : Hid (O = some L) := by show _ = _; rw [HR.out, hS]; rfl
      clear HS HE HR H1
      rw [show spE (.inr L) = 0 from rfl]
      obtain ⟨z, hz⟩ : ∃ z, (spA D.length (.inr L) : Nat) = z := ⟨_, rfl⟩
      rw [hz]
      clear hz hS
      go_wp2
      go_ret2
      rw [HO.out]
      exact ⟨⟨_, rfl, H2.out.2⟩, H2.out.1⟩
  · obtain rfl : O = none := by rw [← hO]; unfold rowS; rw [if_neg hy]
    clear hD uD lD hO
    by_cases h1 : cl = 0
    · subst h1
      by_cases h2 : tg = 16
      · subst h2
        have h3 : co = false := by simpa using hy
        subst h3
        clear hy
        go_enter Tryz.func55, Tryz.ntmps55; go_wp2; go_ret2; exact ⟨⟨none, 0, 0, rfl⟩, al1 _⟩
      · have d2 : (tg != 16) = true := by simpa using h2
        clear hy
        go_enter Tryz.func55, Tryz.ntmps55; go_wp2; go_ret2; exact ⟨⟨none, 0, 0, rfl⟩, al1 _⟩
    · have d1 : (cl != 0) = true := by simpa using h1
      clear hy
      go_enter Tryz.func55, Tryz.ntmps55; go_wp2; go_ret2; exact ⟨⟨none, 0, 0, rfl⟩, al1 _⟩
end Go.Proofs.YtillkhjihggcjaaGreatDoor
/-
  Der: the reference's decimal digits.
-/
namespace Go.Proofs.YtillkhjihggcjaaGreatDoor
open Go.RowKit
theorem st_app (X Y : List Int) : strOfNums X ++ strOfNums Y = strOfNums (X ++ Y) := by
  apply ByteArray.ext
  simp [strOfNums, ByteArray.data_append]
theorem st_size (X : List Int) : (strOfNums X).size = X.length := strOfNums_size X
theorem decI_one {u : Nat} (h : u < 10) : decI u = [48 + (u : Int)] := by
  unfold decI
  rw [Lib.decDigits_one h]
  simp
  omega
theorem decI_big {u : Nat} (h : ¬ u < 10) : decI u = decI (u / 10) ++ [48 + ((u % 10 : Nat) : Int)] := by
  have : decI (u % 10) = [48 + ((u % 10 : Nat) : Int)] := decI_one (by omega)
  rw [← this]
  unfold decI
  rw [← List.map_append, Lib.decDigits_one (i := u % 10) (by omega)]
  conv => lhs; rw [Lib.decDigits, dif_neg h]
theorem one_str (w : World) (x : Int) : Sem.run Tryz.prog (convert 22 9 (.slice (some ⟨w.heap.size, 0, none⟩) 1 1)) (w.alloc (.cells #[.int .u8 x] 5)) = .ok (.string (strOfNums [x])) (w.alloc (.cells #[.int .u8 x] 5)) := by
  refine run_convert_bytes_arg _ _ _ Tryz.und8 Tryz.e8 w.heap.size 0 1 _ [x] rfl (fun i hi => ?_) _ Tryz.str
  obtain rfl : i = 0 := by omega
  exact (Blk.new 5 w [.int .u8 x]).cell 0
set_option maxRecDepth 20000 in
set_option maxHeartbeats 2000000 in
theorem Decimal_any {w : World} (N : Nat) (hN : N ≤ 4294967296) :
    Calls Tryz.prog 63 #[.int .i64 N] w fun e w' => e = .returned (.string (strOfNums (decI N))) ∧ Below w.heap.size w w' := by
  go_enter Tryz.func63, Tryz.ntmps63
  go_wp2_with fail
  go_loopw [0, 3] (fun nv sv wr => ∃ (u : Nat) (D : ByteArray) (S : List Int), nv = .int .i64 u ∧ sv = .string D ∧ D = strOfNums S ∧ u ≤ 4294967296 ∧ decI u ++ S = decI N ∧ S.length ≤ 20 ∧ Below w.heap.size w wr) (fun nv _ _ => (intOf nv).toNat)
  case atStart => exact ⟨N, _, [], rfl, rfl, rfl, hN, by simp, by simp, Below.refl _ _⟩
  case round =>
    obtain ⟨u, D, S, rfl, rfl, hD, hu, hS, hSl, hb⟩ := hrel
    have huI : (u : Int) ≤ 4294967296 := by omega
    have hsz : D.size ≤ 20 := by rw [hD, st_size]; exact hSl
    have H1 : Hid (D = strOfNums S ∧ decI u ++ S = decI N ∧ Below w.heap.size w wr) := ⟨hD, hS, hb⟩
    clear hD hS hb
    by_cases h9 : 9 < u
    · have h9I : (9 : Int) < (u : Int) := by omega
      obtain ⟨x, hx⟩ : ∃ x : Int, 48 + ((u % 10 : Nat) : Int) = x := ⟨_, rfl⟩
      have hx1 : 48 + (u : Int) % 10 = x := by omega
      have hx2 : IntKind.u8.wrap x = x := (by rw [IntKind.wrap_u8]; omega)
      have hcv := one_str wr x
      obtain ⟨D1, hD1⟩ : ∃ D1, strOfNums [x] = D1 := ⟨_, rfl⟩
      rw [hD1] at hcv
      have hz1 : D1.size = 1 := by rw [← hD1, st_size]; rfl
      obtain ⟨E, hE⟩ : ∃ E, D1 ++ D = E := ⟨_, rfl⟩
      have HE : Hid (E = strOfNums (x :: S) ∧ decI (u / 10) ++ (x :: S) = decI N ∧ (x :: S).length ≤ 20) := by
        have h3 : decI (u / 10) ++ (x :: S) = decI N := by
          rw [← H1.out.2.1, decI_big (u := u) (by omega), hx]; simp
        refine ⟨by rw [← hE, ← hD1, H1.out.1, st_app]; rfl, h3, ?_⟩
        have h4 := congrArg List.length h3
        rw [List.length_append] at h4
        have := decI_le N (by omega)
        omega
      clear hx
      go_wp2
      go_roundw
      case rel => exact ⟨u / 10, E, x :: S, by go_num, rfl, HE.out.1, by omega, HE.out.2.1, HE.out.2.2, al2' H1.out.2.2⟩
      case measure => simp [intOf]; omega
    · have h9I : ¬ (9 : Int) < (u : Int) := by omega
      obtain ⟨x, hx⟩ : ∃ x : Int, 48 + (u : Int) = x := ⟨_, rfl⟩
      have hx2 : IntKind.u8.wrap x = x := (by rw [IntKind.wrap_u8]; omega)
      have hcv := one_str wr x
      obtain ⟨D1, hD1⟩ : ∃ D1, strOfNums [x] = D1 := ⟨_, rfl⟩
      rw [hD1] at hcv
      have hz1 : D1.size = 1 := by rw [← hD1, st_size]; rfl
      obtain ⟨E, hE⟩ : ∃ E, D1 ++ D = E := ⟨_, rfl⟩
      have HE : Hid (E = strOfNums (decI N)) := by
        show _ = _
        rw [← hE, ← hD1, H1.out.1, st_app, ← H1.out.2.1, decI_one (by omega), hx]
      go_wp2
      go_ret
      exact ⟨by rw [← HE.out]; rfl, al2' H1.out.2.2⟩
end Go.Proofs.YtillkhjihggcjaaGreatDoor
/-
  Der: the reference's Oid.
-/
namespace Go.Proofs.YtillkhjihggcjaaGreatDoor
open Go.RowKit
theorem gst_pre (X : List Int) : ∀ d i, ∃ R, (gst X (i + d)).1 = (gst X i).1 ++ R
  | 0, i => ⟨[], by simp⟩
  | d + 1, i => by
    obtain ⟨R, hR⟩ := gst_pre X d i
    by_cases h : X.getD (i + d) 0 < 128
    · refine ⟨R ++ [(gst X (i + d)).2 * 128 + (X.getD (i + d) 0 % 128).toNat], ?_⟩
      rw [← Nat.add_assoc, gst_lo rfl h, hR]; simp
    · refine ⟨R, ?_⟩
      rw [← Nat.add_assoc, gst_hi rfl h]; exact hR
theorem oidT_app {A R : List Nat} (h : A ≠ []) : oidT (A ++ R) = oidT A ++ R := by
  cases A with
  | nil => exact absurd rfl h
  | cons v A => rfl
theorem long_pre {A R : List Nat} (h : oidLong A = true) : oidLong (A ++ R) = true := by
  by_cases hA : A = []
  · subst hA; simp [oidLong, oidT] at h
  · unfold oidLong at h ⊢
    rw [oidT_app hA, List.any_append, h]; rfl
theorem long_snoc {A : List Nat} (hA : A ≠ []) (v : Nat) : oidLong (A ++ [v]) = (oidLong A || decide (2147483647 < v)) := by
  unfold oidLong
  rw [oidT_app hA, List.any_append]
  simp
theorem oidS_snoc {A : List Nat} (hA : A ≠ []) (v : Nat) : oidS (A ++ [v]) = oidS A ++ (46 :: decI v) := by
  unfold oidS
  rw [oidT_app hA]
  cases A with
  | nil => exact absurd rfl hA
  | cons a A => unfold oidJ; simp
theorem long_one (v : Nat) : oidLong [v] = decide (2147483647 < v - 40 * oidX v) := by simp [oidLong, oidT]
theorem oidS_one (v : Nat) : oidS [v] = decI (oidX v) ++ (46 :: decI (v - 40 * oidX v)) := by
  unfold oidS oidT oidJ; simp
theorem arcsOk_last {X : List Int} (h : 0 < X.length) : arcsOk X = decide (X.getD (X.length - 1) 0 < 128) := by
  obtain ⟨m, hm⟩ : ∃ m, X.length = m + 1 := ⟨X.length - 1, by omega⟩
  unfold arcsOk
  rw [hm, show m + 1 - 1 = m by omega]
  obtain ⟨x, hx⟩ : ∃ x, X.getD m 0 = x := ⟨_, rfl⟩
  have hb : btw X (m + 1) = decide (x < 128) := by show decide (X.getD m 0 < 128) = _; rw [hx]
  rw [hb, hx]
  by_cases hlo : x < 128
  · rw [gst_lo hx hlo]; simp [hlo]
  · simp [hlo]
theorem oidS_len {A : List Nat} (h : oidLong A = false) : (oidS A).length ≤ 20 + 21 * A.length := by
  have hall : ∀ u ∈ oidT A, u < 18446744073709551616 := by
    intro u hu
    unfold oidLong at h
    rw [List.any_eq_false] at h
    have := h u hu
    simp at this; omega
  have h1 := oidJ_len (oidT A) hall
  have h2 : (oidT A).length = A.length := by cases A <;> rfl
  have h3 := decI_le (oidX (A.headD 0)) (by unfold oidX; omega)
  unfold oidS
  rw [List.length_append]; omega
set_option maxRecDepth 20000 in
set_option maxHeartbeats 8000000 in
theorem ROid_any {w : World} (v : Value) (X : List Int) (hX : Sl .u8 w v X) (uX : U8s X) (hl : X.length ≤ 5000) :
    Calls Tryz.prog 36 #[v] w fun e w' => (∃ s er, OidR X s er ∧ e = .returned (.tuple #[.string (strOfNums s), .int .i64 er])) ∧ Below w.heap.size w w' := by
  obtain ⟨a, c, rfl, hc, hx⟩ := hX
  by_cases hne : X = []
  · subst hne
    have HR : Hid (OidR [] [] 6) := .inl ⟨fun h => by have := h.2; simp [arcsOk, gst] at this, rfl, rfl⟩
    simp only [List.length_nil]
    go_enter Tryz.func36, Tryz.ntmps36
    go_wp2
    go_ret2
    exact ⟨⟨[], 6, HR.out, rfl⟩, Below.refl _ _⟩
  rcases hx with hx | ⟨b, off, rfl, hb, hrd⟩
  · exact absurd hx hne
  obtain ⟨n, hn⟩ : ∃ n, X.length = n := ⟨_, rfl⟩
  have hn0 : 0 < n := by rw [← hn]; exact List.length_pos_iff.2 hne
  obtain ⟨m, hm⟩ : ∃ m, m + 1 = n := ⟨n - 1, by omega⟩
  obtain ⟨xl, hxl⟩ : ∃ xl, X.getD m 0 = xl := ⟨_, rfl⟩
  have hlu := uX.at m
  rw [hxl] at hlu
  have HX : Hid (U8s X ∧ X.length = n ∧ Rd .u8 w b off X ∧ arcsOk X = decide (xl < 128)) := ⟨uX, hn, hrd, by rw [arcsOk_last (by omega), hn, show n - 1 = m by omega, hxl]⟩
  have cl : w.cell? ⟨b, off + m, none⟩ = some (.int .u8 xl) := by rw [hrd m (by omega), hxl]
  have x0 := hlu.1
  have x1 := hlu.2
  rw [hn] at hc hl ⊢
  have hmI : (n : Int) - 1 = (m : Int) := by omega
  have hmn : (m : Int) < (n : Int) := by omega
  have hnb : ((n : Int) == 0) = false := by simp; omega
  have hnI : (n : Int) ≤ 5000 := by omega
  clear hrd uX hn hxl hlu hne
  by_cases hlast : 128 ≤ xl
  · have HR : Hid (OidR X [] 6) := .inl ⟨fun h => by have := h.2; rw [HX.out.2.2.2] at this; simp at this; omega, rfl, rfl⟩
    go_enter Tryz.func36, Tryz.ntmps36
    go_wp2
    go_ret2
    exact ⟨⟨[], 6, HR.out, rfl⟩, Below.refl _ _⟩
  have HL : Hid (arcsOk X = true) := by show _ = _; rw [HX.out.2.2.2]; simp; omega
  go_enter Tryz.func36, Tryz.ntmps36
  go_wp2_with fail
  go_loopw [4] (fun iv wr => ∃ i : Nat, iv = .int .i64 i ∧ i ≤ n ∧ fine X i ∧ w = wr) (fun iv _ => n - (intOf iv).toNat)
  case atStart => exact ⟨0, rfl, by omega, fun j hj => by omega, rfl⟩
  case round =>
    obtain ⟨i, rfl, hi, hf, rfl⟩ := hrel
    have HF : Hid (fine X i) := hf
    clear hf cl
    by_cases hlt : i < n
    · have l1 : (i : Int) < (n : Int) := by omega
      obtain ⟨x, hx⟩ : ∃ x, X.getD i 0 = x := ⟨_, rfl⟩
      have cx : w.cell? ⟨b, off + i, none⟩ = some (.int .u8 x) := by rw [HX.out.2.2.1 i (by have := HX.out.2.1; omega), hx]
      have HXx : Hid (X.getD i 0 = x) := hx
      clear hx
      have ok : Hid (¬ (btw X i = true ∧ x = 128) → fine X (i + 1)) := by
        intro h j hj
        by_cases hji : j = i
        · subst hji; rw [HXx.out]; exact h
        · exact HF.out j (by omega)
      have bad : Hid (btw X i = true → x = 128 → OidR X [] 6) := fun h1 h2 => .inl ⟨fun h => h.1 i (by have := HX.out.2.1; omega) ⟨h1, by rw [HXx.out]; exact h2⟩, rfl, rfl⟩
      by_cases q1 : x = 128
      · subst q1
        by_cases q2 : i = 0
        · subst q2
          rw [Nat.add_zero] at cx
          go_wp2
          go_ret2
          exact ⟨⟨[], 6, bad.out rfl (by simp), rfl⟩, Below.refl _ _⟩
        · have q2b : ((i : Int) == 0) = false := by simpa using q2
          obtain ⟨j, hj⟩ : ∃ j, j + 1 = i := ⟨i - 1, by omega⟩
          obtain ⟨y, hy⟩ : ∃ y, X.getD j 0 = y := ⟨_, rfl⟩
          have cy : w.cell? ⟨b, off + j, none⟩ = some (.int .u8 y) := by rw [HX.out.2.2.1 j (by have := HX.out.2.1; omega), hy]
          have hjI : (i : Int) - 1 = (j : Int) := by omega
          have hjn : (j : Int) < (n : Int) := by omega
          have HY : Hid (btw X i = decide (y < 128)) := by show _ = _; rw [← hj]; show decide (X.getD j 0 < 128) = _; rw [hy]
          clear hy hj
          by_cases q3 : y < 128
          · go_wp2
            go_ret2
            exact ⟨⟨[], 6, bad.out (by rw [HY.out]; simpa using q3) (by simp), rfl⟩, Below.refl _ _⟩
          · go_wp2
            go_roundw
            case rel => exact ⟨i + 1, by go_num, by omega, ok.out (fun h => by have := h.1; rw [HY.out] at this; simp at this; omega), trivial⟩
            case measure => simp [intOf]; omega
      · have q1b : (x == 128) = false := by simpa using q1
        go_wp2
        go_roundw
        case rel => exact ⟨i + 1, by go_num, by omega, ok.out (fun h => q1 h.2), trivial⟩
        case measure => simp [intOf]; omega
    · obtain rfl : i = n := by omega
      have l1 : ¬ (i : Int) < (i : Int) := by omega
      have HG0 : Hid (fine X X.length ∧ arcsOk X = true) := ⟨by rw [HX.out.2.1]; exact HF.out, HL.out⟩
      go_wp2_with fail
      go_loopw [5, 6, 7] (fun sv vv jv wr => ∃ (j : Nat) (t : Int) (D : ByteArray) (S : List Int), sv = .string D ∧ vv = .int .i64 t ∧ jv = .int .i64 j ∧ j ≤ i ∧ D = strOfNums S ∧ ((gst X j).1 = [] ∧ S = [] ∨ (gst X j).1 ≠ [] ∧ S = oidS (gst X j).1) ∧ oidLong (gst X j).1 = false ∧ t = capN 1099511627776 (gst X j).2 ∧ Below w.heap.size w wr) (fun _ _ jv _ => i - (intOf jv).toNat)
      case atStart => exact ⟨0, 0, _, [], rfl, rfl, rfl, by omega, rfl, .inl ⟨rfl, rfl⟩, rfl, rfl, Below.refl _ _⟩
      case round =>
        obtain ⟨j, t, D, S, rfl, rfl, rfl, hj, hD, hS, hlong, ht, hB⟩ := hrel
        have t0 : 0 ≤ t := by rw [ht]; unfold capN; omega
        have t1 : t ≤ 1099511627776 := by rw [ht]; unfold capN; omega
        have H1 : Hid (D = strOfNums S ∧ ((gst X j).1 = [] ∧ S = [] ∨ (gst X j).1 ≠ [] ∧ S = oidS (gst X j).1) ∧ oidLong (gst X j).1 = false ∧ t = capN 1099511627776 (gst X j).2 ∧ Below w.heap.size w wr) := ⟨hD, hS, hlong, ht, hB⟩
        have hDs : D.size ≤ 120000 := by
          rw [hD, st_size]
          rcases hS with ⟨_, rfl⟩ | ⟨_, rfl⟩
          · simp
          · have h1 := oidS_len hlong; have := gst_len X j; omega
        clear hD hS hlong ht
        by_cases hlt : j < i
        · have l1 : (j : Int) < (i : Int) := by omega
          obtain ⟨x, hx⟩ : ∃ x, X.getD j 0 = x := ⟨_, rfl⟩
          have hxu := HX.out.1.at j
          rw [hx] at hxu
          have x0 := hxu.1
          have x1 := hxu.2
          have cx : wr.cell? ⟨b, off + j, none⟩ = some (.int .u8 x) := by rw [below_rd hB hb HX.out.2.2.1 j (by have := HX.out.2.1; omega), hx]
          obtain ⟨y, hy⟩ : ∃ y, x % 128 = y := ⟨_, rfl⟩
          obtain ⟨t2, ht2⟩ : ∃ t2, t * 128 + y = t2 := ⟨_, rfl⟩
          have y0 : 0 ≤ y := by omega
          have y1 : y ≤ 127 := by omega
          have t20 : 0 ≤ t2 := by omega
          have t21 : t2 ≤ 140737488355455 := by omega
          obtain ⟨A2, hA2⟩ : ∃ A2, (gst X j).2 * 128 + (x % 128).toNat = A2 := ⟨_, rfl⟩
          have HA2 : Hid ((t2 ≤ 1099511627776 → t2 = capN 1099511627776 A2) ∧ (¬ t2 ≤ 1099511627776 → 1099511627776 = capN 1099511627776 A2) ∧ X.getD j 0 = x ∧ (gst X j).2 * 128 + (x % 128).toNat = A2) := by
            have h1 := H1.out.2.2.2.1
            unfold capN at h1 ⊢
            refine ⟨by omega, by omega, hx, hA2⟩
          clear hx hxu hA2 hB
          obtain ⟨m2, hm2⟩ : ∃ m2, capN 1099511627776 A2 = m2 := ⟨_, rfl⟩
          have hmc : (t2 ≤ 1099511627776 ∧ t2 = m2) ∨ (¬ t2 ≤ 1099511627776 ∧ m2 = 1099511627776) := by
            by_cases h : t2 ≤ 1099511627776
            · exact .inl ⟨h, by rw [← hm2]; exact HA2.out.1 h⟩
            · exact .inr ⟨h, by rw [← hm2]; exact (HA2.out.2.1 h).symm⟩
          have HM : Hid (capN 1099511627776 A2 = m2) := hm2
          clear hm2
          by_cases hlo : x < 128
          · have HG : Hid (gst X (j + 1) = ((gst X j).1 ++ [A2], 0)) := by show _ = _; rw [gst_lo HA2.out.2.2.1 hlo, HA2.out.2.2.2]
            have HLong : Hid (oidLong ((gst X j).1 ++ [A2]) = true → OidR X [] 3) := by
              intro h
              refine .inr (.inl ⟨HG0.out, ?_, rfl, rfl⟩)
              obtain ⟨R, hR⟩ := gst_pre X (i - (j + 1)) (j + 1)
              rw [show j + 1 + (i - (j + 1)) = i by omega, HG.out] at hR
              rw [HX.out.2.1, hR]
              exact long_pre h
            have fin : Hid (∀ (P : List Int) (z : Nat) (W : World), z ≤ 2147483647 → P.length ≤ 120000 → Below w.heap.size w W → Calls Tryz.prog 63 #[.int .i64 z] W fun e w' => ∃ E, e = .returned (.string E) ∧ E = strOfNums (decI z) ∧ E.size ≤ 20 ∧ Below w.heap.size w w') := by
              intro P z W hz _ hW
              refine (Decimal_any z (by omega)).mono ?_
              rintro e w' ⟨rfl, hb'⟩
              exact ⟨_, rfl, rfl, by rw [st_size]; exact decI_le z (by omega), below_via hW hb' (Nat.le_refl _)⟩
            rcases H1.out.2.1 with ⟨hA0, hS0⟩ | ⟨hAne, hSo⟩
            · have hDe : D = ⟨#[]⟩ := by rw [H1.out.1, hS0]; rfl
              have HA0 : Hid ((gst X j).1 = []) := hA0
              rw [hA0, List.nil_append] at HLong HG
              subst hDe
              clear hDs hA0 hS0
              rcases hmc with ⟨h1, rfl⟩ | ⟨h1, rfl⟩
              · have hA2t : t2 ≤ (A2 : Int) ∧ ((A2 : Int) = t2 ∨ 1099511627776 ≤ t2) := by have := HM.out; unfold capN at this; omega
                have done : Hid (∀ (d z : Nat) (c : Int) (E : ByteArray), oidX A2 = d → A2 - 40 * d = z → z ≤ 2147483647 → (48 + (d : Int)) = c → E = strOfNums (decI z) → gst X (j + 1) = ([A2], 0) ∧ oidLong [A2] = false ∧ strOfNums [c] ++ strOfNums [46] ++ E = strOfNums (oidS [A2])) := by
                  rintro d z c E hd hz hz2 rfl rfl
                  refine ⟨HG.out, ?_, ?_⟩
                  · rw [long_one, hd, hz]; simp; omega
                  · have hd2 : d < 10 := by rw [← hd]; unfold oidX; omega
                    rw [oidS_one, hd, hz, st_app, st_app, decI_one (u := d) hd2]
                    simp
                by_cases q80 : 80 ≤ t2
                · have hX2 : oidX A2 = 2 := by unfold oidX; omega
                  obtain ⟨z, hz⟩ : ∃ z : Nat, t2 - 80 = z := ⟨(t2 - 80).toNat, by omega⟩
                  by_cases qL : 2147483647 < (z : Int)
                  · have hlg : OidR X [] 3 := HLong.out (by rw [long_one, hX2]; simp; omega)
                    have HLG : Hid (OidR X [] 3) := hlg
                    clear hlg
                    go_wp2
                    go_ret2
                    exact ⟨⟨[], 3, HLG.out, rfl⟩, H1.out.2.2.2.2⟩
                  · go_wp2_with fail
                    refine (fin.out [] z _ (by omega) (by simp) H1.out.2.2.2.2).mono ?_
                    rintro e w2 ⟨E, rfl, hE, hEs, hb2⟩
                    have HD : Hid (gst X (j + 1) = ([A2], 0) ∧ oidLong [A2] = false ∧ strOfNums [50] ++ strOfNums [46] ++ E = strOfNums (oidS [A2])) := done.out 2 z 50 E hX2 (by omega) (by omega) rfl hE
                    have HB2 : Hid (Below w.heap.size w w2) := hb2
                    clear hE hb2
                    go_wp2
                    go_roundw
                    case rel => exact ⟨j + 1, 0, _, oidS [A2], rfl, rfl, by go_num, by omega, HD.out.2.2, .inr ⟨by rw [HD.out.1]; simp, by rw [HD.out.1]⟩, by rw [HD.out.1]; exact HD.out.2.1, by rw [HD.out.1]; rfl, HB2.out⟩
                    case measure => simp [intOf]; omega
                by_cases q40 : 40 ≤ t2
                · have hX2 : oidX A2 = 1 := by unfold oidX; omega
                  obtain ⟨z, hz⟩ : ∃ z : Nat, t2 - 40 = z := ⟨(t2 - 40).toNat, by omega⟩
                  have qL : ¬ 2147483647 < (z : Int) := by omega
                  go_wp2_with fail
                  refine (fin.out [] z _ (by omega) (by simp) H1.out.2.2.2.2).mono ?_
                  rintro e w2 ⟨E, rfl, hE, hEs, hb2⟩
                  have HD : Hid (gst X (j + 1) = ([A2], 0) ∧ oidLong [A2] = false ∧ strOfNums [49] ++ strOfNums [46] ++ E = strOfNums (oidS [A2])) := done.out 1 z 49 E hX2 (by omega) (by omega) rfl hE
                  have HB2 : Hid (Below w.heap.size w w2) := hb2
                  clear hE hb2
                  go_wp2
                  go_roundw
                  case rel => exact ⟨j + 1, 0, _, oidS [A2], rfl, rfl, by go_num, by omega, HD.out.2.2, .inr ⟨by rw [HD.out.1]; simp, by rw [HD.out.1]⟩, by rw [HD.out.1]; exact HD.out.2.1, by rw [HD.out.1]; rfl, HB2.out⟩
                  case measure => simp [intOf]; omega
                · have hX2 : oidX A2 = 0 := by unfold oidX; omega
                  obtain ⟨z, hz⟩ : ∃ z : Nat, t2 = z := ⟨t2.toNat, by omega⟩
                  subst hz
                  have qL : ¬ 2147483647 < (z : Int) := by omega
                  go_wp2_with fail
                  refine (fin.out [] z _ (by omega) (by simp) H1.out.2.2.2.2).mono ?_
                  rintro e w2 ⟨E, rfl, hE, hEs, hb2⟩
                  have HD : Hid (gst X (j + 1) = ([A2], 0) ∧ oidLong [A2] = false ∧ strOfNums [48] ++ strOfNums [46] ++ E = strOfNums (oidS [A2])) := done.out 0 z 48 E hX2 (by omega) (by omega) rfl hE
                  have HB2 : Hid (Below w.heap.size w w2) := hb2
                  clear hE hb2
                  go_wp2
                  go_roundw
                  case rel => exact ⟨j + 1, 0, _, oidS [A2], rfl, rfl, by go_num, by omega, HD.out.2.2, .inr ⟨by rw [HD.out.1]; simp, by rw [HD.out.1]⟩, by rw [HD.out.1]; exact HD.out.2.1, by rw [HD.out.1]; rfl, HB2.out⟩
                  case measure => simp [intOf]; omega
              · have HLG : Hid (OidR X [] 3) := by
                  have hm := HM.out
                  unfold capN at hm
                  have hX2 : oidX A2 = 2 := by unfold oidX; omega
                  exact HLong.out (by rw [long_one, hX2]; simp; omega)
                go_wp2
                go_ret2
                exact ⟨⟨[], 3, HLG.out, rfl⟩, H1.out.2.2.2.2⟩
            · have HAn : Hid ((gst X j).1 ≠ [] ∧ S = oidS (gst X j).1) := ⟨hAne, hSo⟩
              have hSpos : 0 < D.size := by
                rw [H1.out.1, st_size, hSo]
                unfold oidS
                rw [List.length_append, decI_len, Lib.decDigits_length]
                have := Lib.nDigits_pos (oidX ((gst X j).1.headD 0)); omega
              have hDb : D.toList.isEmpty = false := by
                have h1 : S ≠ [] := by
                  intro h
                  rw [H1.out.1, h] at hSpos
                  exact absurd hSpos (by decide)
                rw [H1.out.1, Lib.toList_data, strOfNums_data]
                cases S with
                | nil => exact absurd rfl h1
                | cons _ _ => rfl
              clear hAne hSo hSpos
              rcases hmc with ⟨h1, rfl⟩ | ⟨h1, rfl⟩
              · have hA2t : t2 ≤ (A2 : Int) ∧ ((A2 : Int) = t2 ∨ 1099511627776 ≤ t2) := by have := HM.out; unfold capN at this; omega
                by_cases qL : 2147483647 < t2
                · have HLG : Hid (OidR X [] 3) := HLong.out (by rw [long_snoc HAn.out.1]; simp; right; omega)
                  go_wp2
                  go_ret2
                  exact ⟨⟨[], 3, HLG.out, rfl⟩, H1.out.2.2.2.2⟩
                · obtain ⟨z, hz⟩ : ∃ z : Nat, t2 = z := ⟨t2.toNat, by omega⟩
                  subst hz
                  have hzA : A2 = z := by omega
                  subst hzA
                  go_wp2_with fail
                  refine (fin.out [] A2 _ (by omega) (by simp) H1.out.2.2.2.2).mono ?_
                  rintro e w2 ⟨E, rfl, hE, hEs, hb2⟩
                  have HD : Hid (D ++ strOfNums [46] ++ E = strOfNums (oidS ((gst X j).1 ++ [A2])) ∧ oidLong ((gst X j).1 ++ [A2]) = false ∧ (gst X (j + 1)) = ((gst X j).1 ++ [A2], 0)) := by
                    refine ⟨?_, ?_, HG.out⟩
                    · rw [H1.out.1, hE, st_app, st_app, oidS_snoc HAn.out.1, HAn.out.2]; simp
                    · rw [long_snoc HAn.out.1, H1.out.2.2.1]; simp; omega
                  have HB2 : Hid (Below w.heap.size w w2) := hb2
                  clear hE hb2
                  go_wp2
                  go_roundw
                  case rel => exact ⟨j + 1, 0, _, oidS ((gst X j).1 ++ [A2]), rfl, rfl, by go_num, by omega, HD.out.1, .inr ⟨by rw [HD.out.2.2]; simp, by rw [HD.out.2.2]⟩, by rw [HD.out.2.2]; exact HD.out.2.1, by rw [HD.out.2.2]; rfl, HB2.out⟩
                  case measure => simp [intOf]; omega
              · have HLG : Hid (OidR X [] 3) := by
                  have hm := HM.out
                  unfold capN at hm
                  exact HLong.out (by rw [long_snoc HAn.out.1]; simp; right; omega)
                go_wp2
                go_ret2
                exact ⟨⟨[], 3, HLG.out, rfl⟩, H1.out.2.2.2.2⟩
          · have HG : Hid (gst X (j + 1) = ((gst X j).1, A2)) := by show _ = _; rw [gst_hi HA2.out.2.2.1 hlo, HA2.out.2.2.2]
            rcases hmc with ⟨h1, rfl⟩ | ⟨h1, rfl⟩
            all_goals
              go_wp2
              go_roundw
              case rel => exact ⟨j + 1, _, D, S, rfl, rfl, by go_num, by omega, H1.out.1, by rw [HG.out]; exact H1.out.2.1, by rw [HG.out]; exact H1.out.2.2.1, by rw [HG.out]; exact HM.out.symm, H1.out.2.2.2.2⟩
              case measure => simp [intOf]; omega
        · obtain rfl : j = i := by omega
          have l1 : ¬ (j : Int) < (j : Int) := by omega
          have hAne : (gst X j).1 ≠ [] := by
            have h1 := HL.out
            unfold arcsOk at h1
            rw [HX.out.2.1] at h1
            intro h
            rw [h] at h1
            simp at h1
          have HR : Hid (OidR X S 0) := by
            refine .inr (.inr ⟨HG0.out, ?_, ?_, rfl⟩)
            · rw [HX.out.2.1]; exact H1.out.2.2.1
            · rcases H1.out.2.1 with ⟨h, _⟩ | ⟨_, h⟩
              · exact absurd h hAne
              · rw [HX.out.2.1]; exact h
          clear hAne hB
          go_wp2
          go_ret2
          exact ⟨⟨S, 0, HR.out, by rw [← H1.out.1]; rfl⟩, H1.out.2.2.2.2⟩
end Go.Proofs.YtillkhjihggcjaaGreatDoor
