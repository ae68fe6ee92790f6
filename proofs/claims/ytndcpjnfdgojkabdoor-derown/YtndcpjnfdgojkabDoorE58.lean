/-
  Der: the law DerOwn.
-/
import Derived.Test.YtndcpjnfdgojkabDoorE57
namespace Go.Proofs.YtndcpjnfdgojkabDoor
open Go.RowKit
def spE : Sp → Int
  | .bad e _ => e
  | .ok _ => 0
def spA (n : Nat) : Sp → Nat
  | .bad _ a => a
  | .ok _ => n
def spL : Sp → List El
  | .bad _ _ => []
  | .ok L => L
theorem SplitAns.uni {M : List Int} {B : Nat} {w : World} {e : Ending} (h : SplitAns M B w e) : ∃ v, e = .returned (.tuple #[v, .int .i64 (spE (splitS M)), .int .i64 (spA M.length (splitS M))]) ∧ Tlvs B w v (spL (splitS M)) := by
  unfold SplitAns at h
  cases hS : splitS M with
  | bad er a => rw [hS] at h; exact ⟨_, h, Tlvs.nil _ _⟩
  | ok L => rw [hS] at h; exact h
theorem spl_small {M : List Int} (hM : U8s M) : ∀ f p L, M.length - p = f → L.length ≤ 65536 → (∀ y ∈ L, y.d.length ≤ M.length ∧ y.r.length ≤ M.length) → ∀ L', spl M p L = .ok L' → L'.length ≤ 65536 ∧ ∀ y ∈ L', y.d.length ≤ M.length ∧ y.r.length ≤ M.length := by
  intro f
  induction f using Nat.strongRecOn with
  | _ f ih =>
    intro p L hf hL hy L' h
    by_cases hp : p < M.length
    · by_cases hL2 : L.length < 65536
      · cases hE : elemS M p with
        | bad e' a' => rw [spl_bad hp hL2 hE] at h; cases h
        | ok t j E =>
          have := elemS_ok hM hp hE
          rw [spl_ok hM hp hL2 hE] at h
          refine ih (M.length - E) (by omega) E _ rfl (by rw [List.length_append]; exact hL2) ?_ L' h
          intro y hy'
          rcases List.mem_append.1 hy' with hy' | hy'
          · exact hy y hy'
          · rw [List.mem_singleton] at hy'
            subst hy'
            refine ⟨?_, ?_⟩
            · show ((M.drop j).take (E - j)).length ≤ _; rw [List.length_take, List.length_drop]; omega
            · show ((M.drop p).take (E - p)).length ≤ _; rw [List.length_take, List.length_drop]; omega
      · rw [spl_many hp (by omega)] at h; cases h
    · rw [spl_end (by omega)] at h; cases h; exact ⟨hL, hy⟩
theorem splitS_small {M : List Int} (hM : U8s M) : (spL (splitS M)).length ≤ 65536 ∧ ∀ y ∈ spL (splitS M), y.d.length ≤ M.length ∧ y.r.length ≤ M.length := by
  cases hS : splitS M with
  | bad e a => exact ⟨by simp [spL], by simp [spL]⟩
  | ok L =>
    unfold splitS at hS
    split at hS
    · cases hS
    · exact spl_small hM _ 0 [] rfl (by simp) (by simp) L hS
/-- A slice of the call's own that has turned: its block is still there. -/
def Had (w : World) (v : Value) : Prop := v = .slice none 0 0 ∨ ∃ b n c S, v = .slice (some ⟨b, 0, none⟩) n c ∧ Arr .u8 5 w b S ∧ n ≤ S.length
theorem Row.had {B : Nat} {w : World} {v : Value} {xs : List Int} (h : Row .u8 5 B w v xs) : Had w v := by
  rcases h with ⟨rfl, _⟩ | ⟨b, S, rfl, _, hA, hle, _⟩
  · exact .inl rfl
  · exact .inr ⟨b, _, _, S, rfl, hA, by omega⟩
theorem Had.own {w : World} {a : Option Addr} {n c : Nat} (h : Had w (.slice a n c)) (hn : n ≤ 1152921504606846976) : Own8 w (.slice a n c) := by
  rcases h with h | ⟨b, n', c', S, h, hA, hle⟩
  · simp only [Value.slice.injEq] at h
    obtain ⟨rfl, rfl, rfl⟩ := h
    exact .inl ⟨_, _, rfl⟩
  · simp only [Value.slice.injEq] at h
    obtain ⟨rfl, rfl, rfl⟩ := h
    exact .inr ⟨b, _, _, S, rfl, hA, hle, hn⟩
theorem Had.turn {w w' : World} {v : Value} (h : Had w v) (ht : ∀ b S, Arr .u8 5 w b S → ∃ S', Arr .u8 5 w' b S' ∧ S'.length = S.length) : Had w' v := by
  rcases h with h | ⟨b, n, c, S, rfl, hA, hle⟩
  · exact .inl h
  · obtain ⟨S', hA', hl⟩ := ht b S hA
    exact .inr ⟨b, n, c, S', rfl, hA', by omega⟩
theorem Had.below {w w' : World} {v : Value} (h : Had w v) (hb : Below w.heap.size w w') : Had w' v := h.turn fun _ S hA => ⟨S, below_arr hb hA.lt hA, rfl⟩
theorem Grew.had {w w' : World} {v u : Value} {ys : List Int} (hg : Grew .u8 5 w w' v ys) (h : Had w u) : Had w' u := by
  rcases hg with hg | ⟨b, n, S, rfl, hA, hU, hle, hA'⟩
  · exact h.below hg
  · refine h.turn fun b2 S2 hA2 => ?_
    by_cases h2 : b2 = b
    · subst h2
      refine ⟨_, hA', ?_⟩
      unfold Arr at hA hA2
      rw [hA] at hA2
      simp only [Option.some.injEq, Obj.cells.injEq] at hA2
      have := congrArg Array.size hA2.1
      simp at this
      simp; omega
    · exact ⟨S2, hU.arr hA2 h2, rfl⟩
theorem Grew.onl {w w' : World} {v : Value} {ys : List Int} (hg : Grew .u8 5 w w' v ys) : Onl (fun j => blkOf v = some j) w w' := by
  rcases hg with hg | ⟨b, n, S, rfl, hA, hU, hle, hA'⟩
  · exact Onl.ofBelow hg
  · exact Onl.ofUpd hU (.inl rfl)
theorem TlvF.onlB {D : Nat → Prop} {B : Nat} {w w' : World} {v : Value} {Y : List Tc} {i : Nat} (h : TlvF B w v Y i) (ho : Onl D w w') (hD : ∀ j, D j → j < B) : TlvF B w' v Y i := by
  refine ⟨ho.mrow h.mrow (fun b S hS hb hd => ?_), fun j y hj hy => ⟨ho.row (h.rows j y hj hy).1 (fun b hb hd => ?_), ho.row (h.rows j y hj hy).2 (fun b hb hd => ?_)⟩⟩
  · have := hD b hd
    obtain ⟨_, h2⟩ := h.mrow
    rcases h2 with ⟨rfl, _⟩ | ⟨b', S', c', rfl, hB, _⟩
    · simp [blkOf] at hb
    · simp only [blkOf, Option.some.injEq] at hb; omega
  · have := hD b hd; have := ((h.rows j y hj hy).1.blk_lt hb).1; omega
  · have := hD b hd; have := ((h.rows j y hj hy).2.blk_lt hb).1; omega
theorem TlvF.r {B : Nat} {w : World} {v : Value} {Y : List Tc} {L : List El} (h : TlvF B w v Y 0) (hL : Y.map (·.1) = L) : TlvR B w v L :=
  ⟨Y, hL, h.mrow, fun y hy => by
    obtain ⟨j, hj, rfl⟩ := List.mem_iff_getElem.1 hy
    have := h.rows j Y[j] (Nat.zero_le _) (List.getElem?_eq_getElem hj)
    exact ⟨.inl this.1, .inl this.2⟩⟩
theorem Tlvs.f {B : Nat} {w : World} {v : Value} {L : List El} (h : Tlvs B w v L) (i : Nat) : ∃ Y, Y.map (·.1) = L ∧ TlvF B w v Y i := by
  obtain ⟨Y, h1, h2, h3, _⟩ := h
  exact ⟨Y, h1, h2, fun j y _ hy => h3 y (List.mem_of_getElem? hy)⟩
theorem MRow.cell5 {B : Nat} {w : World} {Y : List Tc} {i k c : Nat} {a : Option Addr} (h : MRow 5 31 B w (.slice a k c) Y.length (tlvCells Y)) (hi : i < k) (hk : Y.length = k) {y : Tc} (hy : Y[i]? = some y) : ∃ b, a = some ⟨b, 0, none⟩ ∧ k ≤ c ∧ b < w.heap.size ∧ ∀ q u, q < 5 → (cell5 y)[q]? = some u → w.cell? ⟨b, i * 5 + q, none⟩ = some u := by
  obtain ⟨b, c', hv, hc, _, hlt, hcell⟩ := h.at (by omega)
  simp only [Value.slice.injEq] at hv
  obtain ⟨rfl, hk', rfl⟩ := hv
  refine ⟨b, rfl, by omega, hlt, fun q u hq hu => ?_⟩
  rw [hcell (i * 5 + q) (by omega), tlvCells_get Y i q hq, hy, Option.bind_some, hu]
theorem BitsAns.row {B : Nat} {w : World} {X : List Int} {e : Ending} (h : BitsAns B w X e) (hl : X.length ≤ 2000) : ∃ r x y xs, e = .returned (.tuple #[r, .int .i64 x, .int .i64 y]) ∧ Row .u8 5 B w r xs ∧ xs.length ≤ 2000 := by
  rcases h with ⟨_, r, rfl, hr⟩ | ⟨_, rfl⟩
  · exact ⟨r, _, _, _, rfl, hr, by rw [List.length_drop]; omega⟩
  · exact ⟨_, _, _, [], rfl, Row.nil _ _ _ _, by simp⟩
theorem addr5 (c i b : Nat) : (if c = i then (some ⟨b, 0, none⟩ : Option Addr) else (some (⟨b, 0, none⟩ : Addr)).map (·.add (i * 5))) = if c = i then some ⟨b, 0, none⟩ else some ⟨b, i * 5, none⟩ := by
  by_cases h : c = i
  · rw [if_pos h, if_pos h]
  · rw [if_neg h, if_neg h]
    by_cases h0 : i * 5 = 0
    · rw [h0]; simp [Addr.add]
    · simp [Addr.add]; omega
theorem u8s123 : U8s [1, 2, 3] := by intro x hx; unfold U8; simp at hx; omega
set_option maxRecDepth 20000 in
set_option maxHeartbeats 8000000 in
theorem DerOwn_any {w : World} (a : Option Addr) (n c : Nat) (X : List Int) (hX : Sl .u8 w (.slice a n c) X) (uX : U8s X) (lX : X.length = n) (hn0 : n ≤ 9223372036854775807) (hT : Tab w) :
    Calls Tryd.prog 3 #[.slice a n c] w fun e w' => e = .returned (.bool true) ∧ Below w.heap.size w w' := by
  by_cases hn : n ≤ 2000
  · have hsm := splitS_small uX
    obtain ⟨L, hL⟩ : ∃ L, spL (splitS X) = L := ⟨_, rfl⟩
    rw [hL] at hsm
    have HX : Hid (Sl .u8 w (.slice a n c) X ∧ U8s X ∧ X.length = n ∧ Tab w ∧ X.length ≤ 2000 ∧ spL (splitS X) = L ∧ L.length ≤ 65536 ∧ ∀ y ∈ L, y.d.length ≤ X.length ∧ y.r.length ≤ X.length) := ⟨hX, uX, lX, hT, by omega, hL, hsm⟩
    have hnI : (n : Int) ≤ 2000 := by omega
    clear hX uX lX hT hsm hL
    go_enter Tryd.func3, Tryd.ntmps3
    go_upto_region 4 with (at_builtin; refine wpList_ap rfl (.tmp 19) (.tmp 20) 22 22 rfl .u8 5 1 Tryd.und8 Tryd.info8 (by decide) w.heap.size _ [] rfl (Row.arr (S := []) (arr_nw rfl rfl) (Nat.le_refl _) (by decide)) _ X rfl (src_sl Tryd.und8 (below_sl (al1 _) HX.out.1)) (by have := HX.out.2.2.2.2.1; simp; omega) (by simp) ?_; intro v1 w1 hr1 hg1; have hB1 := hg1.below (Row.arr (B := w.heap.size) (S := []) (arr_nw rfl rfl) (Nat.le_refl _) (by decide)) (by simp))
    rw [List.nil_append] at hr1
    obtain ⟨a1, c1, hv1⟩ := hr1.ne
    rw [HX.out.2.2.1] at hv1
    subst hv1
    have H1 : Hid (Row .u8 5 w.heap.size w1 (.slice a1 n c1) X ∧ Below w.heap.size w w1) := ⟨hr1, (al1 _).trans hB1⟩
    clear hr1 hg1 hB1
    go_wp2_with fail
    refine (SplitS_any _ X H1.out.1.sl HX.out.2.1 (by have := HX.out.2.2.2.2.1; omega)).mono ?_
    rintro e w2 ⟨ha, hb2⟩
    obtain ⟨v2, rfl, ht2⟩ := ha.uni
    rw [HX.out.2.2.2.2.2.1] at ht2
    obtain ⟨Y, hYL, hm, hrows, hap⟩ := ht2
    obtain ⟨al, cl, hv⟩ := hm.ne
    obtain ⟨k, hk⟩ : ∃ k, Y.length = k := ⟨_, rfl⟩
    rw [hk] at hv
    subst hv
    have hF2 : TlvF w1.heap.size w2 (.slice al k cl) Y 0 := ⟨hm, fun j y _ hy => hrows y (List.mem_of_getElem? hy)⟩
    have HY : Hid (Y.map (·.1) = L ∧ Y.length = k ∧ L.length = k ∧ Apart (rowsOf Y) ∧ ∀ y ∈ Y, ∀ b, blkOf y.2.1 = some b ∨ blkOf y.2.2 = some b → w1.heap.size ≤ b ∧ b < w2.heap.size) := by
      refine ⟨hYL, hk, by rw [← hYL, List.length_map, hk], hap, fun y hy b hb => ?_⟩
      rcases hb with hb | hb
      · exact (hrows y hy).1.blk_lt hb
      · exact (hrows y hy).2.blk_lt hb
    have H2 : Hid (TlvF w1.heap.size w2 (.slice al k cl) Y 0 ∧ Below w1.heap.size w1 w2) := ⟨hF2, hb2⟩
    clear ha hm hrows hap hF2 hb2 hk hYL
    go_wp2_with fail
    refine (SplitS_any _ X (below_sl (below_via H1.out.2 H2.out.2 (Nat.le_refl _)) HX.out.1) HX.out.2.1 (by have := HX.out.2.2.2.2.1; omega)).mono ?_
    rintro e w3 ⟨ha, hb3⟩
    obtain ⟨v3, rfl, ht3⟩ := ha.uni
    rw [HX.out.2.2.2.2.2.1] at ht3
    obtain ⟨a3, c3, hv3⟩ : ∃ a c, v3 = .slice a k c := by
      obtain ⟨Y3, h1, h2, _⟩ := ht3
      obtain ⟨a3, c3, hv⟩ := h2.ne
      exact ⟨a3, c3, by rw [hv, ← HY.out.2.2.1, ← h1, List.length_map]⟩
    subst hv3
    have H3 : Hid (TlvF w1.heap.size w3 (.slice al k cl) Y 0 ∧ Tlvs w2.heap.size w3 (.slice a3 k c3) L ∧ Below w1.heap.size w1 w3 ∧ w2.heap.size ≤ w3.heap.size) := ⟨H2.out.1.below hb3, ht3, below_via H2.out.2 hb3 (Nat.le_refl _), hb3.size⟩
    clear ha ht3 hb3
    go_wp2_with fail
    refine (Spoil_own _ ((H1.out.1.below H3.out.2.2.1).own8 (by have := HX.out.2.2.2.2.1; omega))).mono ?_
    rintro e w4 ⟨rfl, ho4, _⟩
    have H4 : Hid (TlvF w1.heap.size w4 (.slice al k cl) Y 0 ∧ Tlvs w2.heap.size w4 (.slice a3 k c3) L ∧ Below w.heap.size w w4 ∧ w3.heap.size ≤ w4.heap.size) := by
      have h1 := ho4 (fun j => blkOf (.slice a1 n c1) = some j) (fun _ h => h)
      refine ⟨H3.out.1.onlB h1 (fun j hj => (H1.out.1.blk_lt hj).2), h1.tlvs H3.out.2.1 (fun j hj => by have := (H1.out.1.blk_lt hj).2; have := H2.out.2.size; omega), ?_, h1.size⟩
      exact h1.below (below_via H1.out.2 H3.out.2.2.1 (Nat.le_refl _)) (Nat.le_trans H1.out.2.size H3.out.2.2.1.size) (fun j hj => (H1.out.1.blk_lt hj).1)
    clear ho4
    go_wp2_with fail
    refine (Same_any _ _ L (H4.out.1.r HY.out.1).s H4.out.2.1.r.s (by have := HX.out.2.2.2.2.2.2.1; omega) (fun y hy => by have := HX.out.2.2.2.2.2.2.2 y hy; have := HX.out.2.2.2.2.1; omega)).mono ?_
    rintro e w5 ⟨rfl, hb5⟩
    have H5 : Hid (TlvF w1.heap.size w5 (.slice al k cl) Y 0 ∧ Tlvs w2.heap.size w5 (.slice a3 k c3) L ∧ Below w.heap.size w w5 ∧ w2.heap.size ≤ w5.heap.size ∧ w1.heap.size ≤ w2.heap.size ∧ w.heap.size ≤ w1.heap.size ∧ k ≤ 65536) := ⟨H4.out.1.below hb5, H4.out.2.1.below hb5, below_via H4.out.2.2.1 hb5 (Nat.le_refl _), by have := H3.out.2.2.2; have := H4.out.2.2.2; have := hb5.size; omega, H2.out.2.size, H1.out.2.size, by have := HY.out.2.2.1; have := HX.out.2.2.2.2.2.2.1; omega⟩
    have hk6 : k ≤ 65536 := H5.out.2.2.2.2.2.2
    clear hb5
    go_wp2_with fail
    go_loopw [10] (fun iv wr => ∃ i : Nat, iv = .int .i64 i ∧ i ≤ k ∧ TlvF w1.heap.size wr (.slice al k cl) Y i ∧ Tlvs w2.heap.size wr (.slice a3 k c3) L ∧ Below w.heap.size w wr ∧ w2.heap.size ≤ wr.heap.size) (fun iv _ => k - (intOf iv).toNat)
    case atStart => exact ⟨0, rfl, by omega, H5.out.1, H5.out.2.1, H5.out.2.2.1, H5.out.2.2.2.1⟩
    case round =>
      obtain ⟨i, rfl, hi, hF, hM, hB, hsz⟩ := hrel
      by_cases hlt : i < k
      · have l1 : (i : Int) < (k : Int) := by omega
        obtain ⟨⟨x, d, r⟩, hy⟩ : ∃ y, Y[i]? = some y := ⟨_, List.getElem?_eq_getElem (by have := HY.out.2.1; omega)⟩
        have hyr := hF.rows i _ (Nat.le_refl _) hy
        have hxL : x ∈ L := by rw [← HY.out.1]; exact List.mem_map.2 ⟨_, List.mem_of_getElem? hy, rfl⟩
        have hxl := HX.out.2.2.2.2.2.2.2 x hxL
        have hX2 := HX.out.2.2.2.2.1
        have hapt := apart_at Y HY.out.2.2.2.1 i _ hy
        have hblk := HY.out.2.2.2.2 _ (List.mem_of_getElem? hy)
        simp only [] at hyr hapt hblk
        obtain ⟨ad, cd, hd⟩ := hyr.1.ne
        obtain ⟨nd, hnd⟩ : ∃ nd, x.d.length = nd := ⟨_, rfl⟩
        rw [hnd] at hd
        subst hd
        obtain ⟨ar, cr, hr⟩ := hyr.2.ne
        obtain ⟨nr, hnr⟩ : ∃ nr, x.r.length = nr := ⟨_, rfl⟩
        rw [hnr] at hr
        subst hr
        obtain ⟨bl, hal, hkc, hbl, hcell⟩ := hF.mrow.cell5 hlt HY.out.2.1 hy
        subst hal
        have e3 : wr.cell? ⟨bl, i * 5 + 3, none⟩ = some (.slice ad nd cd) := hcell 3 _ (by omega) rfl
        have HR : Hid (TlvF w1.heap.size wr (.slice (some ⟨bl, 0, none⟩) k cl) Y i ∧ Tlvs w2.heap.size wr (.slice a3 k c3) L ∧ Below w.heap.size w wr ∧ w2.heap.size ≤ wr.heap.size ∧ Y[i]? = some (x, .slice ad nd cd, .slice ar nr cr) ∧ x ∈ L ∧ x.d.length = nd ∧ x.r.length = nr ∧ x.d.length ≤ 2000 ∧ x.r.length ≤ 2000) := ⟨hF, hM, hB, hsz, hy, hxL, hnd, hnr, by omega, by omega⟩
        have HA : Hid (Row .u8 5 w1.heap.size wr (.slice ad nd cd) x.d ∧ Row .u8 5 w1.heap.size wr (.slice ar nr cr) x.r) := hyr
        have HP : Hid ((∀ b, blkOf (.slice ad nd cd) = some b → blkOf (.slice ar nr cr) ≠ some b) ∧ (∀ (j : Nat) (z : Tc), i < j → Y[j]? = some z → ∀ b, (blkOf (.slice ad nd cd) = some b → blkOf z.2.1 ≠ some b ∧ blkOf z.2.2 ≠ some b) ∧ (blkOf (.slice ar nr cr) = some b → blkOf z.2.1 ≠ some b ∧ blkOf z.2.2 ≠ some b)) ∧ ∀ b, blkOf (.slice ad nd cd) = some b ∨ blkOf (.slice ar nr cr) = some b → w1.heap.size ≤ b ∧ b < w2.heap.size) := ⟨hapt.1, hapt.2, hblk⟩
        have hkcI : (k : Int) ≤ (cl : Int) := by omega
        clear hF hM hB hsz hy hyr hxL hxl hX2 hapt hblk hnd hnr hcell
        go_wp2_with (at_builtin; refine wpList_apL rfl (.tmp 50) (.tmp 51) 22 22 rfl .u8 5 1 Tryd.und8 Tryd.info8 (by decide) w1.heap.size _ x.d rfl (HA.out.1.alloc _) _ [1, 2, 3] rfl (src_sl Tryd.und8 (Arr.sl (S := [1, 2, 3]) (arr_nw rfl rfl))) (by have := HR.out.2.2.2.2.2.2.2.2.1; simp; omega) (by have := HR.out.2.2.2.1; have := H5.out.2.2.2.2.1; simp; omega) ?_; intro v6 w6 hr6 hg6 hl6)
        refine (Spoil_own _ (hr6.own8 (by have := HR.out.2.2.2.2.2.2.2.2.1; rw [List.length_append]; simp; omega))).mono ?_
        rintro e w7 ⟨rfl, ho7, ht7⟩
        have H7 : Hid (Onl (fun j => blkOf (.slice ad nd cd) = some j) wr w7 ∧ Had w7 (.slice ad nd cd)) := by
          have o6 : Onl (fun j => blkOf (.slice ad nd cd) = some j) wr w6 := (Onl.ofBelow (al1 _)).trans hg6.onl
          refine ⟨o6.comb (ho7 _ fun b hb => ?_), ((hg6.had (HA.out.1.had.below (al1 _))).turn ht7)⟩
          rcases hl6 with h | h
          · rw [h] at hb; exact .inl hb
          · rw [h] at hb
            simp only [Option.some.injEq] at hb
            have := (al1 (w := wr) (.cells #[.int .u8 1, .int .u8 2, .int .u8 3] 5)).size
            exact .inr (by omega)
        have e3' : w7.cell? ⟨bl, i * 5 + 3, none⟩ = some (.slice ad nd cd) := by
          have hm7 := H7.out.1.mrow HR.out.1.mrow (fun _ _ hS _ hd => HA.out.1.not_tlv hS hd)
          obtain ⟨bl', hal, _, _, hcell⟩ := hm7.cell5 hlt HY.out.2.1 HR.out.2.2.2.2.1
          simp only [Option.some.injEq, Addr.mk.injEq, and_true] at hal
          subst hal
          exact hcell 3 _ (by omega) rfl
        clear hr6 hg6 hl6 ho7 ht7 e3
        go_wp2_with fail
        refine (Spoil_own _ (H7.out.2.own (by have := HR.out.2.2.2.2.2.2; omega))).mono ?_
        rintro e w8 ⟨rfl, ho8, _⟩
        have h8 := H7.out.1.trans (ho8 _ fun _ h => h)
        have hF8 : TlvF w1.heap.size w8 (.slice (some ⟨bl, 0, none⟩) k cl) Y (i + 1) := HR.out.1.next.onl h8 HA.out.1 (fun j y hj hy b hb => ((HP.out.2.1 j y (by omega) hy b).1 hb))
        have hr8 : Row .u8 5 w1.heap.size w8 (.slice ar nr cr) x.r := h8.row HA.out.2 (fun b hb hd => HP.out.1 b hd hb)
        have hM8 : Tlvs w2.heap.size w8 (.slice a3 k c3) L := h8.tlvs HR.out.2.1 (fun j hj => (HP.out.2.2 j (.inl hj)).2)
        have hB8 : Below w.heap.size w w8 := h8.below HR.out.2.2.1 HR.out.2.2.1.size (fun j hj => by have := (HP.out.2.2 j (.inl hj)).1; have := H5.out.2.2.2.2.2.1; omega)
        obtain ⟨Y3, hY3L, hF3⟩ := hM8.f (i + 1)
        have hY3k : Y3.length = k := by rw [← HY.out.2.2.1, ← hY3L, List.length_map]
        obtain ⟨⟨x3, d3, r3⟩, hy3⟩ : ∃ y, Y3[i]? = some y := ⟨_, List.getElem?_eq_getElem (by omega)⟩
        have hx3 : x3 = x := by
          have q1 : (Y.map (·.1))[i]? = some x := by rw [List.getElem?_map, HR.out.2.2.2.2.1]; rfl
          have q2 : (Y3.map (·.1))[i]? = some x3 := by rw [List.getElem?_map, hy3]; rfl
          rw [HY.out.1] at q1
          rw [hY3L, q1] at q2
          exact (Option.some.inj q2).symm
        subst hx3
        obtain ⟨Y3', hY3L', hF3'⟩ := hM8.f 0
        obtain ⟨b3, ha3, hkc3, hb3, hcell3⟩ := hF3.mrow.cell5 hlt hY3k hy3
        subst ha3
        have hr3s : Sl .u8 w8 r3 x3.r := by
          obtain ⟨Yq, hq1, hq2, hq3, _⟩ := hM8
          have hYqk : Yq.length = k := by rw [← HY.out.2.2.1, ← hq1, List.length_map]
          obtain ⟨⟨xq, dq, rq⟩, hyq⟩ : ∃ y, Yq[i]? = some y := ⟨_, List.getElem?_eq_getElem (by omega)⟩
          have hxq : xq = x3 := by
            have q1 : (Y3.map (·.1))[i]? = some x3 := by rw [List.getElem?_map, hy3]; rfl
            have q2 : (Yq.map (·.1))[i]? = some xq := by rw [List.getElem?_map, hyq]; rfl
            rw [hY3L] at q1
            rw [hq1, q1] at q2
            exact (Option.some.inj q2).symm
          obtain ⟨bq, haq, _, _, hcq⟩ := MRow.cell5 hq2 hlt hYqk hyq
          simp only [Option.some.injEq, Addr.mk.injEq, and_true] at haq
          subst haq
          have z1 := hcq 4 _ (by omega) rfl
          have z2 := hcell3 4 _ (by omega) rfl
          rw [z1] at z2
          have hrq : rq = r3 := Option.some.inj z2
          rw [← hrq, ← hxq]
          exact (hq3 _ (List.mem_of_getElem? hyq)).2.sl
        obtain ⟨ar3, cr3, hv3⟩ : ∃ a c, r3 = .slice a nr c := by
          obtain ⟨a, c, h, _⟩ := hr3s
          exact ⟨a, c, by rw [h, HR.out.2.2.2.2.2.2.2.1]⟩
        subst hv3
        obtain ⟨bl8, hal8, _, hbl8, hcell8⟩ := hF8.mrow.cell5 hlt HY.out.2.1 HR.out.2.2.2.2.1
        simp only [Option.some.injEq, Addr.mk.injEq, and_true] at hal8
        subst hal8
        have g4 : w8.cell? ⟨bl, i * 5 + 4, none⟩ = some (.slice ar nr cr) := hcell8 4 _ (by omega) rfl
        have g5 : w8.cell? ⟨b3, i * 5 + 4, none⟩ = some (.slice ar3 nr cr3) := hcell3 4 _ (by omega) rfl
        obtain ⟨i1, hi1⟩ : ∃ i1, i + 1 = i1 := ⟨_, rfl⟩
        rw [hi1] at hF8 hF3
        obtain ⟨u1, hu1⟩ : ∃ u1 : Option Addr, (if cl = i1 then some ⟨bl, 0, none⟩ else some ⟨bl, i1 * 5, none⟩) = u1 := ⟨_, rfl⟩
        obtain ⟨u3, hu3⟩ : ∃ u3 : Option Addr, (if c3 = i1 then some ⟨b3, 0, none⟩ else some ⟨b3, i1 * 5, none⟩) = u3 := ⟨_, rfl⟩
        have HF : Hid (TlvF w1.heap.size w8 (.slice (some ⟨bl, 0, none⟩) k cl) Y i1 ∧ Row .u8 5 w1.heap.size w8 (.slice ar nr cr) x3.r ∧ Tlvs w2.heap.size w8 (.slice (some ⟨b3, 0, none⟩) k c3) L ∧ Below w.heap.size w w8 ∧ Sl .u8 w8 (.slice ar3 nr cr3) x3.r ∧ w2.heap.size ≤ w8.heap.size ∧ i + 1 = i1) := ⟨hF8, hr8, hM8, hB8, hr3s, by have := HR.out.2.2.2.1; have := h8.size; omega, hi1⟩
        have HS1 : Hid (TlvS w8 (.slice u1 (k - i1) (cl - i1)) (L.drop i1)) := by
          have := hF8.drop (a' := u1) HY.out.2.1 (by omega) (by rw [← hu1]; exact addr5 _ _ _)
          rw [List.map_drop, HY.out.1] at this
          exact this
        have HS3 : Hid (TlvS w8 (.slice u3 (k - i1) (c3 - i1)) (L.drop i1)) := by
          have := hF3.drop (a' := u3) hY3k (by omega) (by rw [← hu3]; exact addr5 _ _ _)
          rw [List.map_drop, hY3L] at this
          exact this
        have i1I : (i : Int) + 1 = (i1 : Int) := by omega
        have hwi : IntKind.i64.wrap (i1 : Int) = (i1 : Int) := by rw [IntKind.wrap_i64]; omega
        have i1k : (i1 : Int) ≤ (k : Int) := by omega
        have i1kN : i1 ≤ k := by omega
        have hkc3I : (k : Int) ≤ (c3 : Int) := by omega
        clear h8 ho8 hF8 hr8 hM8 hB8 hY3L hF3 hY3k hy3 hF3' hY3L' hcell3 hcell8 hr3s hi1 e3'
        go_upto_region 14 with (fail)
        have two : Hid (∀ W, Below w8.heap.size w8 W → W.cell? ⟨bl, i * 5 + 4, none⟩ = some (.slice ar nr cr) ∧ W.cell? ⟨b3, i * 5 + 4, none⟩ = some (.slice ar3 nr cr3)) := fun W h => ⟨(h.cell hbl8).trans g4, (h.cell hb3).trans g5⟩
        go_region_held3 (fun W => Below w8.heap.size w8 W ∧ W.cell? ⟨bl, i * 5 + 4, none⟩ = some (.slice ar nr cr) ∧ W.cell? ⟨b3, i * 5 + 4, none⟩ = some (.slice ar3 nr cr3)) (first | exact ⟨(Below.refl _ _).drew, two.out _ (Below.refl _ _).drew⟩ | exact (fun h => ⟨h, two.out _ h⟩) (below_via (And.left (by assumption)) (by assumption) (Nat.le_refl _)))
          (first
            | (go_at_call 8; refine (SameBytes_any _ _ x3.r (below_sl (And.left (by assumption)) HF.out.2.1.sl) (below_sl (And.left (by assumption)) HF.out.2.2.2.2.1) (by have := HR.out.2.2.2.2.2.2.2; omega)).mono ?_; rintro e w9 ⟨rfl, hb9⟩)
            | (go_at_call 7; refine (Same_any _ _ (L.drop i1) (HS1.out.below (And.left (by assumption))) (HS3.out.below (And.left (by assumption))) (by have := HX.out.2.2.2.2.2.2.1; rw [List.length_drop]; omega) (fun y hy => by have := HX.out.2.2.2.2.2.2.2 y (List.mem_of_mem_drop hy); have := HX.out.2.2.2.2.1; omega)).mono ?_; rintro e w10 ⟨rfl, hb10⟩))
        have hb8' : Below w8.heap.size w8 w10 := And.left (by assumption)
        have g6 : w10.cell? ⟨bl, i * 5 + 4, none⟩ = some (.slice ar nr cr) := (two.out _ hb8').1
        have H10 : Hid (Below w8.heap.size w8 w10) := hb8'
        clear hb8' hb9 hb10 two g4 g5
        go_wp2_with fail
        refine (Spoil_own _ ((HF.out.2.1.below H10.out).own8 (by have := HR.out.2.2.2.2.2.2; omega))).mono ?_
        rintro e w11 ⟨rfl, ho11, _⟩
        have h11 := ho11 (fun j => blkOf (.slice ar nr cr) = some j) (fun _ h => h)
        have H11 : Hid (TlvF w1.heap.size w11 (.slice (some ⟨bl, 0, none⟩) k cl) Y i1 ∧ Tlvs w2.heap.size w11 (.slice (some ⟨b3, 0, none⟩) k c3) L ∧ Below w.heap.size w w11 ∧ w2.heap.size ≤ w11.heap.size) := by
          refine ⟨(HF.out.1.below H10.out).onl h11 (HF.out.2.1.below H10.out) (fun j y hj hy b hb => ((HP.out.2.1 j y (by have := HF.out.2.2.2.2.2.2; omega) hy b).2 hb)), h11.tlvs (HF.out.2.2.1.below H10.out) (fun j hj => (HP.out.2.2 j (.inr hj)).2), ?_, ?_⟩
          · exact h11.below (below_via HF.out.2.2.2.1 H10.out (Nat.le_refl _)) (Nat.le_trans HF.out.2.2.2.1.size H10.out.size) (fun j hj => by have := (HP.out.2.2 j (.inr hj)).1; have := H5.out.2.2.2.2.2.1; omega)
          · have := HF.out.2.2.2.2.2.1; have := H10.out.size; have := h11.size; omega
        clear ho11 h11 g6
        go_wp2
        go_roundw
        case rel => exact ⟨i1, rfl, i1kN, H11.out.1, H11.out.2.1, H11.out.2.2.1, H11.out.2.2.2⟩
        case measure => have := HF.out.2.2.2.2.2.2; simp [intOf]; omega
      · obtain rfl : i = k := by omega
        have l1 : ¬ (i : Int) < (i : Int) := by omega
        have HB : Hid (Below w.heap.size w wr) := hB
        clear hF hM hB hsz
        go_wp2_with fail
        refine (Bits_any _ X (below_sl HB.out HX.out.1) HX.out.2.1 (by have := HX.out.2.2.2.2.1; omega)).mono ?_
        rintro e w6 ⟨ha, hb6⟩
        obtain ⟨r6, x6, y6, xs6, rfl, hr6, hl6⟩ := ha.row HX.out.2.2.2.2.1
        have H6 : Hid (Row .u8 5 wr.heap.size w6 r6 xs6 ∧ Below w.heap.size w w6 ∧ xs6.length ≤ 2000 ∧ wr.heap.size ≤ w6.heap.size) := ⟨hr6, below_via HB.out hb6 (Nat.le_refl _), hl6, hb6.size⟩
        clear ha hb6 hr6 hl6
        go_upto_region 19 with (at_builtin; refine wpList_ap rfl (.tmp 96) (.tmp 97) 22 22 rfl .u8 5 1 Tryd.und8 Tryd.info8 (by decide) w6.heap.size _ [] rfl (Row.arr (S := []) (arr_nw rfl rfl) (Nat.le_refl _) (by decide)) _ X rfl (src_sl Tryd.und8 (below_sl (below_via H6.out.2.1 (al1 _) (Nat.le_refl _)) HX.out.1)) (by have := HX.out.2.2.2.2.1; simp; omega) (by simp) ?_; intro v7 w7 hr7 hg7; have hB7 := hg7.below (Row.arr (B := w6.heap.size) (S := []) (arr_nw rfl rfl) (Nat.le_refl _) (by decide)) (by simp))
        rw [List.nil_append] at hr7
        have H7 : Hid (Row .u8 5 w6.heap.size w7 v7 X ∧ Below w6.heap.size w6 w7) := ⟨hr7, (al1 _).trans hB7⟩
        clear hr7 hg7 hB7
        go_wp2_with fail
        refine (Spoil_own _ ((H6.out.1.below H7.out.2).own8 (by have := H6.out.2.2.1; omega))).mono ?_
        rintro e w8 ⟨rfl, ho8, _⟩
        have H8 : Hid (Sl .u8 w8 v7 X ∧ Below w.heap.size w w8) := by
          have h1 := ho8 (fun j => blkOf r6 = some j) (fun _ h => h)
          refine ⟨(h1.row H7.out.1 (fun b hb hd => ?_)).sl, ?_⟩
          · have := (H6.out.1.blk_lt hd).2
            have := (H7.out.1.blk_lt hb).1
            omega
          · exact h1.below (below_via H6.out.2.1 H7.out.2 (Nat.le_refl _)) (Nat.le_trans H6.out.2.1.size H7.out.2.size) (fun j hj => by have := (H6.out.1.blk_lt hj).1; have := HB.out.size; omega)
        clear ho8
        go_wp2_with fail
        refine (SameBytes_any _ _ X H8.out.1 (below_sl H8.out.2 HX.out.1) (by have := HX.out.2.2.2.2.1; omega)).mono ?_
        rintro e w9 ⟨rfl, hb9⟩
        have H9 : Hid (Below w.heap.size w w9) := below_via H8.out.2 hb9 (Nat.le_refl _)
        clear hb9
        go_wp2_with (go_at_call 4; refine (live_any (HX.out.2.2.2.1.below H9.out)).mono ?_; rintro e w10 ⟨rfl, hb10⟩)
        go_ret
        exact ⟨rfl, below_via H9.out hb10 (Nat.le_refl _)⟩
  · have HX : Hid (Tab w) := hT
    have hnI : (2000 : Int) < (n : Int) := by omega
    clear hX uX lX hT
    go_enter Tryd.func3, Tryd.ntmps3
    go_wp2_with (go_at_call 4; refine (live_any HX.out).mono ?_; rintro e w8 ⟨rfl, hb8⟩)
    go_ret
    exact ⟨rfl, hb8⟩
end Go.Proofs.YtndcpjnfdgojkabDoor
