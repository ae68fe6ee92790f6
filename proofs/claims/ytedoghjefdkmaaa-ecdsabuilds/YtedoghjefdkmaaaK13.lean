/-
  Der: rows of elements in memory; Split.
-/
import Derived.Test.YtedoghjefdkmaaaK12
namespace Go.Proofs.Ytedoghjefdkmaaa
open Go.RowKit
/-- The block that a slice lies in. -/
def blkOf : Value → Option Nat
  | .slice (some a) _ _ => some a.block
  | _ => none
/-- No two of them lie in one block. -/
def Apart (vs : List Value) : Prop := vs.Pairwise fun u v => ∀ b, blkOf u = some b → blkOf v ≠ some b
abbrev Tc := El × Value × Value
def cell5 (y : Tc) : List Value := [.int .i64 y.1.cl, .int .i64 y.1.tg, .bool y.1.co, y.2.1, y.2.2]
def tlvCells (Y : List Tc) : List Value := Y.flatMap cell5
def rowsOf (Y : List Tc) : List Value := Y.flatMap fun y => [y.2.1, y.2.2]
theorem tlvCells_len (Y : List Tc) : (tlvCells Y).length = Y.length * 5 := by
  induction Y with
  | nil => rfl
  | cons y Y ih => simp only [tlvCells, List.flatMap_cons, List.length_append, List.length_cons] at ih ⊢; rw [ih]; simp [cell5]; omega
theorem tlvCells_snoc (Y : List Tc) (y : Tc) : tlvCells (Y ++ [y]) = tlvCells Y ++ cell5 y := by simp [tlvCells]
theorem rowsOf_snoc (Y : List Tc) (y : Tc) : rowsOf (Y ++ [y]) = rowsOf Y ++ [y.2.1, y.2.2] := by simp [rowsOf]
/-- A slice of elements, all of it in memory of the call's own, no two of its rows in one block. -/
def Tlvs (B : Nat) (w : World) (v : Value) (L : List El) : Prop :=
  ∃ Y : List Tc, Y.map (·.1) = L ∧ MRow 5 48 B w v Y.length (tlvCells Y) ∧ (∀ y ∈ Y, Row .u8 5 B w y.2.1 y.1.d ∧ Row .u8 5 B w y.2.2 y.1.r) ∧ Apart (rowsOf Y)
theorem Tlvs.nil (B : Nat) (w : World) : Tlvs B w (.slice none 0 0) [] := ⟨[], rfl, MRow.nil _ _ _ _, by simp, List.Pairwise.nil⟩
theorem Row.blk_lt {k : IntKind} {e : TypeId} {B : Nat} {w : World} {v : Value} {xs : List Int} (h : Row k e B w v xs) {b : Nat} (hb : blkOf v = some b) : B ≤ b ∧ b < w.heap.size := by
  rcases h with ⟨rfl, _⟩ | ⟨b', S, rfl, h1, hA, _⟩
  · simp [blkOf] at hb
  · simp only [blkOf, Option.some.injEq] at hb; subst hb; exact ⟨h1, hA.lt⟩
theorem Apart.snoc {vs : List Value} {d r : Value} (h : Apart vs) (m : Nat) (h1 : ∀ u ∈ vs, ∀ b, blkOf u = some b → b < m) (hd : ∀ b, blkOf d = some b → m ≤ b) (hr : ∀ b, blkOf r = some b → m ≤ b) (hdr : ∀ b, blkOf d = some b → blkOf r ≠ some b) : Apart (vs ++ [d, r]) := by
  unfold Apart at *
  rw [List.pairwise_append]
  refine ⟨h, ?_, ?_⟩
  · simp only [List.pairwise_cons, List.mem_singleton, List.not_mem_nil, false_implies, implies_true, List.Pairwise.nil, and_true, forall_eq]
    exact hdr
  · intro u hu v hv b hb hb'
    have := h1 u hu b hb
    simp only [List.mem_cons, List.not_mem_nil, or_false] at hv
    rcases hv with rfl | rfl
    · have := hd b hb'; omega
    · have := hr b hb'; omega
/-- What Split tells. -/
def SplitOut (n : Nat) (B : Nat) (w : World) (e : Ending) : Sp → Prop
  | .bad er a => e = .returned (.tuple #[.slice none 0 0, .int .i64 er, .int .i64 a])
  | .ok L => ∃ v, e = .returned (.tuple #[v, .int .i64 0, .int .i64 n]) ∧ Tlvs B w v L
def SplitAns (M : List Int) (B : Nat) (w : World) (e : Ending) : Prop := SplitOut M.length B w e (splitS M)
theorem MRow.mono {m : Nat} {e : TypeId} {B B' : Nat} {w : World} {v : Value} {n : Nat} {xs : List Value} (h : MRow m e B w v n xs) (hb : B' ≤ B) : MRow m e B' w v n xs := by
  obtain ⟨h0, h⟩ := h
  refine ⟨h0, ?_⟩
  rcases h with h | ⟨b, S, c, rfl, h1, h2⟩
  · exact .inl h
  · exact .inr ⟨b, S, c, rfl, by omega, h2⟩
theorem Tlvs.mono {B B' : Nat} {w : World} {v : Value} {L : List El} (h : Tlvs B w v L) (hb : B' ≤ B) : Tlvs B' w v L := by
  obtain ⟨Y, h1, h2, h3, h4⟩ := h
  exact ⟨Y, h1, h2.mono hb, fun y hy => ⟨(h3 y hy).1.mono hb, (h3 y hy).2.mono hb⟩, h4⟩
theorem Tlvs.below {B : Nat} {w w' : World} {v : Value} {L : List El} (h : Tlvs B w v L) (hb : Below w.heap.size w w') : Tlvs B w' v L := by
  obtain ⟨Y, h1, h2, h3, h4⟩ := h
  exact ⟨Y, h1, h2.below hb, fun y hy => ⟨(h3 y hy).1.below hb, (h3 y hy).2.below hb⟩, h4⟩
set_option maxRecDepth 20000 in
set_option maxHeartbeats 4000000 in
theorem SplitS_ne {w : World} (b off n c : Nat) (M : List Int) (hM : Rd .u8 w b off M) (uM : U8s M) (hMl : M.length = n) (hn : n ≤ 16777216) (hnc : n ≤ c) (hb : b < w.heap.size) :
    Calls Try.prog 38 #[.slice (some ⟨b, off, none⟩) n c] w fun e w' => SplitAns M w.heap.size w' e ∧ Below w.heap.size w w' := by
  obtain ⟨O, hO⟩ : ∃ O, spl M 0 [] = O := ⟨_, rfl⟩
  have HO : Hid (spl M 0 [] = O ∧ splitS M = O) := ⟨hO, by unfold splitS; rw [if_neg (by omega), hO]⟩
  have HX : Hid (Rd .u8 w b off M ∧ U8s M ∧ M.length = n) := ⟨hM, uM, hMl⟩
  have hnI : (n : Int) ≤ 16777216 := by omega
  unfold SplitAns
  rw [HO.out.2, hMl]
  clear hM uM hMl hO
  go_enter Try.func38, Try.ntmps38
  go_wp2_with fail
  refine wp_gen (fun W => Rdr W w.heap.size b off n c 0 ∧ Below w.heap.size w W) ⟨Blk.new _ w _, al1 _⟩ ?_
  rintro v1 hv1
  have H1 : Hid (Rdr v1 w.heap.size b off n c 0 ∧ Below w.heap.size w v1) := ⟨hv1.1, hv1.2⟩
  clear hv1
  go_loopw [2] (fun lv wr => ∃ (p : Nat) (L : List El) (v : Value), v = lv ∧ Rdr wr w.heap.size b off n c p ∧ Below w.heap.size w wr ∧ Tlvs (w.heap.size + 1) wr v L ∧ spl M p L = O ∧ L.length ≤ 65536 ∧ p ≤ n) (fun _ wr => n - posOf (wr.cell? ⟨w.heap.size, 1, none⟩))
  case atStart => exact ⟨0, [], _, rfl, H1.out.1, H1.out.2, Tlvs.nil _ _, HO.out.1, by simp, by omega⟩
  case round =>
    obtain ⟨p, L, v, rfl, hr, hbl, ⟨Y, hYL, hm, hrows, hap⟩, hO, hL, hp⟩ := hrel
    have hYl : Y.length = L.length := by rw [← hYL, List.length_map]
    obtain ⟨al, cl, hv⟩ := hm.ne
    obtain ⟨k, hk⟩ : ∃ k, Y.length = k := ⟨_, rfl⟩
    rw [hk] at hv hm
    subst hv
    have hkL : k ≤ 65536 := by omega
    have H2 : Hid (Rdr wr w.heap.size b off n c p ∧ Below w.heap.size w wr ∧ Y.map (·.1) = L ∧ MRow 5 48 (w.heap.size + 1) wr (.slice al k cl) k (tlvCells Y) ∧ (∀ y ∈ Y, Row .u8 5 (w.heap.size + 1) wr y.2.1 y.1.d ∧ Row .u8 5 (w.heap.size + 1) wr y.2.2 y.1.r) ∧ Apart (rowsOf Y) ∧ spl M p L = O ∧ Y.length = k ∧ L.length = k) := ⟨hr, hbl, hYL, hm, hrows, hap, hO, hk, by omega⟩
    have g1 : wr.cell? ⟨w.heap.size, 1, none⟩ = some (.int .i64 p) := hr.cell 1
    clear hr hbl hYL hm hrows hap hO hk hYl hL
    by_cases hlt : p < n
    · have l1 : (p : Int) < (n : Int) := by omega
      by_cases hmany : k = 65536
      · subst hmany
        go_upto_region 6 with (fail)
        go_quiet (fail)
        go_wp2
        go_ret3
        have h1 := H2.out.2.2.2.2.2.2.1
        rw [spl_many (by have := HX.out.2.2; omega) (by have := H2.out.2.2.2.2.2.2.2; omega)] at h1
        subst h1
        exact ⟨rfl, below_drewN _ H2.out.2.1⟩
      have hmb : ((k : Int) == 65536) = false := by simp; omega
      go_wp2_with fail
      refine (elementS_any w.heap.size b off n c p M H2.out.1 (below_rd H2.out.2.1 hb HX.out.1) HX.out.2.1 HX.out.2.2 hn hnc (Nat.lt_of_lt_of_le hb H2.out.2.1.size) (by omega) hlt).mono ?_
      intro e v2 h2
      unfold ElemAns at h2
      obtain ⟨S, hS⟩ : ∃ S, elemS M p = S := ⟨_, rfl⟩
      rw [hS] at h2
      have HS : Hid (elemS M p = S) := hS
      clear hS
      have hwlt : w.heap.size < wr.heap.size := H2.out.1.lt
      cases S with
      | bad er a =>
        obtain ⟨rfl, hu, hr⟩ := h2
        have hbad := elemS_bad HX.out.2.1 (by have := HX.out.2.2; omega) HS.out
        have hne : (er != 0) = true := by simp; omega
        have HE : Hid (O = .bad er a) := by
          show _ = _
          rw [← H2.out.2.2.2.2.2.2.1]; exact spl_bad (by have := HX.out.2.2; omega) (by have := H2.out.2.2.2.2.2.2.2; omega) HS.out
        have hb2 : Below w.heap.size w v2 := ⟨hu.os.trans H2.out.2.1.os, hu.tape.trans H2.out.2.1.tape, hu.output.trans H2.out.2.1.output, Nat.le_trans H2.out.2.1.size hu.size, fun j hj => (hu.block j (by omega) (fun e => by simp at e; omega)).trans (H2.out.2.1.block j hj)⟩
        have H3 : Hid (Rdr v2 w.heap.size b off n c a ∧ Below w.heap.size w v2) := ⟨hr, hb2⟩
        clear hu hr hb2 g1 hbad
        go_upto_region 9 with (fail)
        refine wp_gen (fun W => Rdr W w.heap.size b off n c a ∧ Below w.heap.size w W) ⟨H3.out.1.alloc _, al2' H3.out.2⟩ ?_
        rintro v3 hv3
        have H4 : Hid (Below w.heap.size w v3) := hv3.2
        have g1 : v3.cell? ⟨w.heap.size, 1, none⟩ = some (.int .i64 a) := hv3.1.cell 1
        clear hv3
        go_quiet (fail)
        go_wp2
        go_ret3
        rw [HE.out]
        exact ⟨rfl, below_drewN _ H4.out⟩
      | ok t j E =>
        obtain ⟨a1, c1, a2, c2, rfl, ⟨hu, hr⟩, hd, hrw, hdr⟩ := h2
        have hok := elemS_ok HX.out.2.1 (by have := HX.out.2.2; omega) HS.out
        have HE : Hid (spl M E (L ++ [elAt M p t j E]) = O ∧ p < E ∧ E ≤ n ∧ L.length + 1 ≤ 65536) := by
          refine ⟨?_, by omega, by have := HX.out.2.2; omega, by have := H2.out.2.2.2.2.2.2.2; omega⟩
          rw [← H2.out.2.2.2.2.2.2.1]
          exact (spl_ok HX.out.2.1 (by have := HX.out.2.2; omega) (by have := H2.out.2.2.2.2.2.2.2; omega) HS.out).symm
        have hb2 : Below w.heap.size w v2 := ⟨hu.os.trans H2.out.2.1.os, hu.tape.trans H2.out.2.1.tape, hu.output.trans H2.out.2.1.output, Nat.le_trans H2.out.2.1.size hu.size, fun j hj => (hu.block j (by omega) (fun e => by simp at e; omega)).trans (H2.out.2.1.block j hj)⟩
        obtain ⟨x1, hx1⟩ : ∃ x1, M.getD p 0 / 64 = x1 := ⟨_, rfl⟩
        obtain ⟨x2, hx2⟩ : ∃ x2 : Bool, decide (M.getD p 0 / 32 % 2 = 1) = x2 := ⟨_, rfl⟩
        obtain ⟨n1, hn1⟩ : ∃ n1, E - j = n1 := ⟨_, rfl⟩
        obtain ⟨n2, hn2⟩ : ∃ n2, E - p = n2 := ⟨_, rfl⟩
        have HEl : Hid (elAt M p t j E = ⟨x1, t, x2, (M.drop j).take n1, (M.drop p).take n2⟩) := by show _ = _; unfold elAt; rw [hx1, hx2, hn1, hn2]
        rw [hx1, hx2, hn1, hn2]
        rw [hn1] at hd
        rw [hn2] at hrw
        have H3 : Hid (Rdr v2 w.heap.size b off n c E ∧ Below w.heap.size w v2 ∧ Row .u8 5 wr.heap.size v2 (.slice a1 n1 c1) ((M.drop j).take n1) ∧ Row .u8 5 wr.heap.size v2 (.slice a2 n2 c2) ((M.drop p).take n2) ∧ (∀ b1 b2 o1 o2 k1 k2, a1 = some ⟨b1, o1, k1⟩ → a2 = some ⟨b2, o2, k2⟩ → b1 ≠ b2) ∧ MRow 5 48 (w.heap.size + 1) v2 (.slice al k cl) k (tlvCells Y) ∧ (∀ y ∈ Y, Row .u8 5 (w.heap.size + 1) v2 y.2.1 y.1.d ∧ Row .u8 5 (w.heap.size + 1) v2 y.2.2 y.1.r) ∧ w.heap.size < v2.heap.size) :=
          ⟨hr, hb2, hd, hrw, hdr, H2.out.2.2.2.1.upd hu (by omega), fun y hy => ⟨(H2.out.2.2.2.2.1 y hy).1.upd hu (by omega), (H2.out.2.2.2.2.1 y hy).2.upd hu (by omega)⟩, hr.lt⟩
        clear hu hr hb2 g1 hd hrw hdr hok hx1 hx2 hn1 hn2
        go_wp2_with (at_builtin; refine wpList_apm rfl (.tmp 32) (.tmp 34) 51 51 rfl 5 zeroT rfl 48 72 Try.undT Try.infoT (by decide) (w.heap.size + 1) _ k _ rfl ((H3.out.2.2.2.2.2.1.alloc _).alloc _) _ 1 [.int .i64 x1, .int .i64 t, .bool x2, .slice a1 n1 c1, .slice a2 n2 c2] rfl (src_m (T := 48) Try.undT 5 (blk_nw (by simp) rfl) rfl (tlv_one _ _ _ _ _ _ _ _ _)) (by omega) (by have := H3.out.2.2.2.2.2.2.2; simp; omega) ?_; intro v v5 hr hg)
        have hb5 : Below (w.heap.size + 1) _ v5 := hg.below ((H3.out.2.2.2.2.2.1.alloc _).alloc _) (by have := H3.out.2.2.2.2.2.2.2; simp; omega)
        have hb45 : Below (w.heap.size + 1) v2 v5 := (((Below.refl _ _).alloc (by have := H3.out.2.2.2.2.2.2.2; omega) _).alloc (by have := H3.out.2.2.2.2.2.2.2; simp; omega) _).trans hb5
        have hkeep : ∀ (B : Nat) (u : Value) (X : List Int), Row .u8 5 B v2 u X → Row .u8 5 B v5 u X := fun B u X h => ((h.alloc _).alloc _).mgrew hg
        have H4 : Hid (Rdr v5 w.heap.size b off n c E ∧ Below w.heap.size w v5 ∧ Tlvs (w.heap.size + 1) v5 v (L ++ [elAt M p t j E])) := by
          refine ⟨below_blk hb45 (by omega) H3.out.1, H3.out.2.1.trans (hb45.mono (by omega)), ?_⟩
          refine ⟨Y ++ [(⟨x1, t, x2, (M.drop j).take n1, (M.drop p).take n2⟩, .slice a1 n1 c1, .slice a2 n2 c2)], ?_, ?_, ?_, ?_⟩
          · rw [List.map_append, H2.out.2.2.1, HEl.out]; rfl
          · rw [tlvCells_snoc, List.length_append, H2.out.2.2.2.2.2.2.2.1]; exact hr
          · intro y hy
            rcases List.mem_append.1 hy with hy | hy
            · exact ⟨hkeep _ _ _ (H3.out.2.2.2.2.2.2.1 y hy).1, hkeep _ _ _ (H3.out.2.2.2.2.2.2.1 y hy).2⟩
            · rw [List.mem_singleton] at hy
              subst hy
              exact ⟨(hkeep _ _ _ H3.out.2.2.1).mono (by omega), (hkeep _ _ _ H3.out.2.2.2.1).mono (by omega)⟩
          · rw [rowsOf_snoc]
            refine Apart.snoc H2.out.2.2.2.2.2.1 wr.heap.size ?_ (fun b hb => (H3.out.2.2.1.blk_lt hb).1) (fun b hb => (H3.out.2.2.2.1.blk_lt hb).1) ?_
            · intro u hu b hb
              unfold rowsOf at hu
              obtain ⟨y, hy, hu⟩ := List.mem_flatMap.1 hu
              have h1 := H2.out.2.2.2.2.1 y hy
              simp only [List.mem_cons, List.not_mem_nil, or_false] at hu
              rcases hu with rfl | rfl
              · exact (h1.1.blk_lt hb).2
              · exact (h1.2.blk_lt hb).2
            · intro b hb hb'
              cases a1 with
              | none => simp [blkOf] at hb
              | some a1 =>
                cases a2 with
                | none => simp [blkOf] at hb'
                | some a2 =>
                  simp only [blkOf, Option.some.injEq] at hb hb'
                  exact H3.out.2.2.2.2.1 a1.block a2.block a1.off a2.off a1.spot a2.spot rfl rfl (by omega)
        clear hr hg hb5 hb45 hkeep
        go_roundw
        case rel => exact ⟨E, _, _, rfl, H4.out.1, H4.out.2.1, H4.out.2.2, HE.out.1, by rw [List.length_append]; exact HE.out.2.2.2, HE.out.2.2.1⟩
        case measure => rw [H4.out.1.pos, H2.out.1.pos]; have := HE.out.2; omega
    · obtain rfl : p = n := by omega
      have l1 : ¬ (p : Int) < (p : Int) := by omega
      go_upto_region 11 with (fail)
      go_quiet (fail)
      go_wp2
      go_ret3
      have h1 := H2.out.2.2.2.2.2.2.1
      rw [spl_end (by have := HX.out.2.2; omega)] at h1
      subst h1
      refine ⟨⟨_, rfl, ?_⟩, below_drewN _ H2.out.2.1⟩
      have h2 := H2.out
      have ht : Tlvs (w.heap.size + 1) wr (.slice al k cl) L := ⟨Y, h2.2.2.1, by rw [h2.2.2.2.2.2.2.2.1]; exact h2.2.2.2.1, h2.2.2.2.2.1, h2.2.2.2.2.2.1⟩
      exact (ht.mono (by omega)).below ⟨rfl, rfl, rfl, Nat.le_refl _, fun _ _ => rfl⟩
end Go.Proofs.Ytedoghjefdkmaaa
/-
  Der: Split of any slice.
-/
namespace Go.Proofs.Ytedoghjefdkmaaa
open Go.RowKit
set_option maxRecDepth 20000 in
set_option maxHeartbeats 4000000 in
theorem SplitS_any {w : World} (v : Value) (M : List Int) (hv : Sl .u8 w v M) (uM : U8s M) (hl : M.length ≤ 9223372036854775807) :
    Calls Try.prog 38 #[v] w fun e w' => SplitAns M w.heap.size w' e ∧ Below w.heap.size w w' := by
  obtain ⟨a, c, rfl, hc, h⟩ := hv
  by_cases hn : M.length ≤ 16777216
  · by_cases hne : M = []
    · subst hne
      have HE : Hid (SplitAns [] w.heap.size = fun w' e => SplitOut 0 w.heap.size w' e (.ok [])) := rfl
      rw [HE.out]
      simp only [List.length_nil]
      go_enter Try.func38, Try.ntmps38
      go_wp2_with fail
      refine wp_gen (fun W => Blk 87 W w.heap.size [.slice a 0 c, .int .i64 0] ∧ Below w.heap.size w W) ⟨Blk.new _ w _, al1 _⟩ ?_
      rintro v1 hv1
      have H1 : Hid (Below w.heap.size w v1) := hv1.2
      have g1 : v1.cell? ⟨w.heap.size, 1, none⟩ = some (.int .i64 0) := hv1.1.cell 1
      clear hv1
      refine wp_loop_rounds 1 ?_
      rw [rounds_succ]
      go_upto_region 11 with (fail)
      go_quiet (fail)
      go_wp2
      go_ret3
      exact ⟨⟨_, rfl, Tlvs.nil _ _⟩, below_drewN _ H1.out⟩
    · rcases h with h | ⟨b, off, rfl, hb, hr⟩
      · exact absurd h hne
      · exact SplitS_ne b off M.length c M hr uM rfl hn hc hb
  · have HE : Hid (splitS M = .bad 3 0) := by show _ = _; unfold splitS; rw [if_pos (by omega)]
    have hnI : (16777216 : Int) < (M.length : Int) := by omega
    unfold SplitAns
    rw [HE.out]
    obtain ⟨n, hn⟩ : ∃ n, M.length = n := ⟨_, rfl⟩
    rw [hn] at hnI ⊢
    clear h
    go_enter Try.func38, Try.ntmps38
    go_wp2
    go_ret3
    exact ⟨rfl, Below.refl _ _⟩
end Go.Proofs.Ytedoghjefdkmaaa
/-
  Der: One.
-/
namespace Go.Proofs.Ytedoghjefdkmaaa
open Go.RowKit
def noEl : El := ⟨0, 0, false, [], []⟩
/-- What One tells, of what Split tells. -/
def oneS : Sp → El × Int
  | .bad e _ => (noEl, e)
  | .ok [] => (noEl, 5)
  | .ok [x] => (x, 0)
  | .ok (_ :: _ :: _) => (noEl, 4)
def OneOut (B : Nat) (w : World) (e : Ending) (o : El × Int) : Prop :=
  ∃ a1 n1 c1 a2 n2 c2, e = .returned (.tuple #[.agg #[.int .i64 o.1.cl, .int .i64 o.1.tg, .bool o.1.co, .slice a1 n1 c1, .slice a2 n2 c2], .int .i64 o.2]) ∧ Row .u8 5 B w (.slice a1 n1 c1) o.1.d ∧ Row .u8 5 B w (.slice a2 n2 c2) o.1.r
theorem OneOut.no (B : Nat) (w : World) (er : Int) (e : Ending) (h : e = .returned (.tuple #[nilT, .int .i64 er])) : OneOut B w e (noEl, er) :=
  ⟨none, 0, 0, none, 0, 0, h, Row.nil _ _ _ _, Row.nil _ _ _ _⟩
theorem spl_err {M : List Int} (hM : U8s M) : ∀ f p L, M.length - p = f → ∀ e a, spl M p L = .bad e a → e ≠ 0 := by
  intro f
  induction f using Nat.strongRecOn with
  | _ f ih =>
    intro p L hf e a h
    by_cases hp : p < M.length
    · by_cases hL : L.length < 65536
      · cases hE : elemS M p with
        | bad e' a' =>
          rw [spl_bad hp hL hE] at h
          have := elemS_bad hM hp hE
          cases h; omega
        | ok t j E =>
          have := elemS_ok hM hp hE
          rw [spl_ok hM hp hL hE] at h
          exact ih (M.length - E) (by omega) E _ rfl e a h
      · rw [spl_many hp (by omega)] at h; cases h; decide
    · rw [spl_end (by omega)] at h; cases h
theorem splitS_err {M : List Int} (hM : U8s M) {e : Int} {a : Nat} (h : splitS M = .bad e a) : e ≠ 0 := by
  unfold splitS at h
  split at h
  · cases h; decide
  · exact spl_err hM _ _ _ rfl e a h
set_option maxRecDepth 20000 in
set_option maxHeartbeats 4000000 in
theorem OneS_any {w : World} (v : Value) (M : List Int) (hv : Sl .u8 w v M) (uM : U8s M) (hl : M.length ≤ 9223372036854775807) :
    Calls Try.prog 35 #[v] w fun e w' => OneOut w.heap.size w' e (oneS (splitS M)) ∧ Below w.heap.size w w' := by
  have HX : Hid (Sl .u8 w v M ∧ U8s M ∧ M.length ≤ 9223372036854775807) := ⟨hv, uM, hl⟩
  clear hv uM hl
  obtain ⟨S, hS⟩ : ∃ S, splitS M = S := ⟨_, rfl⟩
  have HS : Hid (splitS M = S) := hS
  rw [hS]
  clear hS
  go_enter Try.func35, Try.ntmps35
  go_wp2_with fail
  refine (SplitS_any v M (sl_alloc HX.out.1 _) HX.out.2.1 HX.out.2.2).mono ?_
  rintro e w1 ⟨ha, hb⟩
  unfold SplitAns at ha
  rw [HS.out] at ha
  have hB1 : Blk 48 w1 w.heap.size [.int .i64 0, .int .i64 0, .bool false, .slice none 0 0, .slice none 0 0] := below_blk hb (by simp) (Blk.new _ w _)
  have H1 : Hid (Below w.heap.size w w1 ∧ Blk 48 w1 w.heap.size [.int .i64 0, .int .i64 0, .bool false, .slice none 0 0, .slice none 0 0]) := ⟨below_via (al1 _) hb (Nat.le_refl _), hB1⟩
  have d0 : w1.cell? ⟨w.heap.size, 0, none⟩ = some (.int .i64 0) := hB1.cell 0
  have d1 : w1.cell? ⟨w.heap.size, 1, none⟩ = some (.int .i64 0) := hB1.cell 1
  have d2 : w1.cell? ⟨w.heap.size, 2, none⟩ = some (.bool false) := hB1.cell 2
  have d3 : w1.cell? ⟨w.heap.size, 3, none⟩ = some (.slice none 0 0) := hB1.cell 3
  have d4 : w1.cell? ⟨w.heap.size, 4, none⟩ = some (.slice none 0 0) := hB1.cell 4
  have f0 := hB1.frozen 0
  have f1 := hB1.frozen 1
  have f2 := hB1.frozen 2
  have f3 := hB1.frozen 3
  have f4 := hB1.frozen 4
  have hs1 : w.heap.size < w1.heap.size := hB1.lt
  clear hb hB1
  have hB : Hid (Blk 48 (((((w1.setCell ⟨w.heap.size, 0, none⟩ (.int .i64 0)).setCell ⟨w.heap.size, 1, none⟩ (.int .i64 0)).setCell ⟨w.heap.size, 2, none⟩ (.bool false)).setCell ⟨w.heap.size, 3, none⟩ (.slice none 0 0)).setCell ⟨w.heap.size, 4, none⟩ (.slice none 0 0)) w.heap.size [.int .i64 0, .int .i64 0, .bool false, .slice none 0 0, .slice none 0 0]) :=
    ((((H1.out.2.set 0 (.int .i64 0)).set 1 (.int .i64 0)).set 2 (.bool false)).set 3 (.slice none 0 0)).set 4 (.slice none 0 0)
  have hU : Hid (Upd w1 (((((w1.setCell ⟨w.heap.size, 0, none⟩ (.int .i64 0)).setCell ⟨w.heap.size, 1, none⟩ (.int .i64 0)).setCell ⟨w.heap.size, 2, none⟩ (.bool false)).setCell ⟨w.heap.size, 3, none⟩ (.slice none 0 0)).setCell ⟨w.heap.size, 4, none⟩ (.slice none 0 0)) w.heap.size) :=
    ((((Upd.set w1 w.heap.size 0 (.int .i64 0)).trans (Upd.set _ _ 1 (.int .i64 0))).trans (Upd.set _ _ 2 (.bool false))).trans (Upd.set _ _ 3 (.slice none 0 0))).trans (Upd.set _ _ 4 (.slice none 0 0))
  cases S with
  | bad er a =>
    have hne0 := splitS_err HX.out.2.1 HS.out
    have hne : (er != 0) = true := by simpa using hne0
    obtain rfl : e = .returned (.tuple #[.slice none 0 0, .int .i64 er, .int .i64 a]) := ha
    go_wp2
    refine bodyPost_ret (results_blk2 rfl rfl hB.out Try.underlying48 rfl Try.sizeT rfl) rfl ⟨?_, hU.out.below H1.out.1 H1.out.1.size (Nat.le_refl _)⟩
    exact OneOut.no _ _ _ _ rfl
  | ok L =>
    obtain ⟨v2, rfl, ht⟩ : ∃ v, e = .returned (.tuple #[v, .int .i64 0, .int .i64 M.length]) ∧ Tlvs (w.alloc (.cells #[.int .i64 0, .int .i64 0, .bool false, .slice none 0 0, .slice none 0 0] 48)).heap.size w1 v L := ha
    obtain ⟨Y, hYL, hm, hrows, hap⟩ := ht
    obtain ⟨al, cl, hv2⟩ := hm.ne
    obtain ⟨k, hk⟩ : ∃ k, Y.length = k := ⟨_, rfl⟩
    rw [hk] at hv2
    subst hv2
    have hlen := hYL
    cases Y with
    | nil =>
      subst hYL
      have hk0 : 0 = k := hk
      subst hk0
      go_wp2
      refine bodyPost_ret (results_blk2 rfl rfl hB.out Try.underlying48 rfl Try.sizeT rfl) rfl ⟨?_, hU.out.below H1.out.1 H1.out.1.size (Nat.le_refl _)⟩
      exact OneOut.no _ _ _ _ rfl
    | cons y Y =>
      cases Y with
      | cons y2 Y =>
        subst hYL
        have hk1 : (1 : Int) < (k : Int) := by simp at hk; omega
        have hk2 : ((k : Int) == 0) = false := by simp; omega
        clear hk hm hrows hap hlen
        go_wp2
        refine bodyPost_ret (results_blk2 rfl rfl hB.out Try.underlying48 rfl Try.sizeT rfl) rfl ⟨?_, hU.out.below H1.out.1 H1.out.1.size (Nat.le_refl _)⟩
        exact OneOut.no _ _ _ _ rfl
      | nil =>
        subst hYL
        have hk1 : 1 = k := hk
        subst hk1
        clear hk hlen hap
        obtain ⟨⟨xc, xt, xo, xd, xr⟩, yd, yr⟩ := y
        have hr1 := hrows _ (List.mem_singleton_self _)
        obtain ⟨a1, c1, hd⟩ := hr1.1.ne
        obtain ⟨a2, c2, hr⟩ := hr1.2.ne
        obtain ⟨n1, hn1⟩ : ∃ n1, xd.length = n1 := ⟨_, rfl⟩
        obtain ⟨n2, hn2⟩ : ∃ n2, xr.length = n2 := ⟨_, rfl⟩
        simp only [] at hd hr
        rw [hn1] at hd
        rw [hn2] at hr
        subst hd
        subst hr
        clear hn1 hn2
        obtain ⟨bl, cl2, hv, hc2, hbl, hbv, hcells⟩ := hm.at (by simp)
        simp only [Value.slice.injEq] at hv
        obtain ⟨rfl, h11, rfl⟩ := hv
        clear h11
        have e0 : w1.cell? ⟨bl, 0, none⟩ = some (.int .i64 xc) := hcells 0 (by simp)
        have e1 : w1.cell? ⟨bl, 1, none⟩ = some (.int .i64 xt) := hcells 1 (by simp)
        have e2 : w1.cell? ⟨bl, 2, none⟩ = some (.bool xo) := hcells 2 (by simp)
        have e3 : w1.cell? ⟨bl, 3, none⟩ = some (.slice a1 n1 c1) := hcells 3 (by simp)
        have e4 : w1.cell? ⟨bl, 4, none⟩ = some (.slice a2 n2 c2) := hcells 4 (by simp)
        have H2 : Hid (Row .u8 5 (w.heap.size + 1) w1 (.slice a1 n1 c1) xd ∧ Row .u8 5 (w.heap.size + 1) w1 (.slice a2 n2 c2) xr) := ⟨by simpa using hr1.1, by simpa using hr1.2⟩
        clear hcells hr1 hm hrows hbl hbv hc2 hs1
        go_wp2
        have hB' := ((((H1.out.2.set 0 (.int .i64 xc)).set 1 (.int .i64 xt)).set 2 (.bool xo)).set 3 (.slice a1 n1 c1)).set 4 (.slice a2 n2 c2)
        have hU' := ((((Upd.set w1 w.heap.size 0 (.int .i64 xc)).trans (Upd.set _ _ 1 (.int .i64 xt))).trans (Upd.set _ _ 2 (.bool xo))).trans (Upd.set _ _ 3 (.slice a1 n1 c1))).trans (Upd.set _ _ 4 (.slice a2 n2 c2))
        refine bodyPost_ret (results_blk2 rfl rfl hB' Try.underlying48 rfl Try.sizeT rfl) rfl ⟨⟨a1, n1, c1, a2, n2, c2, rfl, ?_, ?_⟩, hU'.below H1.out.1 H1.out.1.size (Nat.le_refl _)⟩
        · exact (H2.out.1.upd hU' (Nat.lt_succ_self _)).mono (Nat.le_succ _)
        · exact (H2.out.2.upd hU' (Nat.lt_succ_self _)).mono (Nat.le_succ _)
end Go.Proofs.Ytedoghjefdkmaaa
