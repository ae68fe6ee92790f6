/-
  Curve: Parse. (wip/mku35.py)
-/
import Derived.Test.YteagdgbcfbkfbabK22
namespace Go.Proofs.Yteagdgbcfbkfbab
open Go.RowKit
set_option maxRecDepth 20000
/-- The number that bytes tell, the highest first. -/
def bnum (B : List Int) : Nat := (Nt.bv B.reverse).toNat
theorem bnum_len {B : List Int} (hu : U8s B) : (lim (bnum B)).length ≤ B.length := by
  have hv : Nt.U8s B := fun x hx => hu x hx
  have h := Nt.bv_bound hv.rev
  rw [List.length_reverse] at h
  refine lim_len_le (k := B.length) ?_
  unfold bnum
  rw [Int.toNat_of_nonneg h.1]
  have h2 : (256 : Int) ^ B.length ≤ 4294967296 ^ B.length := by
    have : (((256 : Nat) ^ B.length : Nat) : Int) ≤ (((4294967296 : Nat) ^ B.length : Nat) : Int) := Int.ofNat_le.2 (Nat.pow_le_pow_left (by omega) _)
    rw [Int.natCast_pow, Int.natCast_pow] at this
    exact this
  exact Int.lt_of_lt_of_le h.2 h2
theorem FromB {w : World} (v : Value) (B : List Int) (hB : Sl .u8 w v B) (uB : U8s B) (lB : B.length ≤ 2048) : Calls Try.prog 23 #[v] w fun e w' => ∃ a n c, e = .returned (.tuple #[.slice a n c, .int .i64 0]) ∧ Nb w' (.slice a n c) (bnum B) ∧ Below w.heap.size w w' := by
  refine (Nt.FromBytes_any B v w hB (fun x hx => uB x hx)).mono ?_
  rintro e w' ⟨⟨r, rfl, hr⟩, hb⟩
  have e1 : Nt.fromS B = (lim (bnum B), 0) := by unfold Nt.fromS; rw [if_neg (by omega)]; rfl
  rw [e1] at hr ⊢
  have hn : Nb w' r (bnum B) := hr.sl
  obtain ⟨a, c, rfl⟩ := hn.form
  exact ⟨a, _, c, rfl, hn, hb⟩
/-- Parse of a curve's bytes: X, Y, and the fault. -/
def prsC (C : Cv) (S : List Int) : Nat × Nat × Int :=
  if S.length = 2 * C.sz + 1 ∧ S.getD 0 0 = 4 then
    if farB (lim (bnum ((S.drop 1).take C.sz))) (lim (bnum (S.drop (1 + C.sz)))) = false ∧ onB C.p C.b (lim (bnum ((S.drop 1).take C.sz))) (lim (bnum (S.drop (1 + C.sz)))) = true then (bnum ((S.drop 1).take C.sz), bnum (S.drop (1 + C.sz)), 0) else (0, 0, 90)
  else (0, 0, 6)
def prsS (c : Int) (S : List Int) : Nat × Nat × Int := match crv c with
  | none => (0, 0, 1)
  | some C => prsC C S
theorem sl_part {k : IntKind} {w : World} {a : Option Addr} {n c : Nat} {S : List Int} (h : Sl k w (.slice a n c) S) (i m : Nat) (hm : i + m ≤ n) (h0 : 0 < n) : ∃ b off, a = some ⟨b, off, none⟩ ∧ Sl k w (.slice (some ⟨b, off + i, none⟩) m (c - i)) ((S.drop i).take m) := by
  obtain ⟨a', c', hv, hc, hx⟩ := h
  simp only [Value.slice.injEq] at hv
  obtain ⟨rfl, rfl, rfl⟩ := hv
  rcases hx with hx | ⟨b, off, rfl, hb, hr⟩
  · subst hx; simp at h0
  · refine ⟨b, off, rfl, some ⟨b, off + i, none⟩, c - i, ?_, ?_, .inr ⟨b, off + i, rfl, hb, fun j hj => ?_⟩⟩
    · rw [List.length_take, List.length_drop, Nat.min_eq_left (by omega)]
    · rw [List.length_take, List.length_drop]; omega
    · rw [List.length_take, List.length_drop] at hj
      rw [Nat.add_assoc, hr (i + j) (by omega), List.getD_eq_getElem?_getD, List.getD_eq_getElem?_getD, List.getElem?_take, if_pos (by omega), List.getElem?_drop]

def PrsA (w : World) (c : Int) (S : List Int) (e : Ending) (w' : World) : Prop := ∃ r0 r1, e = .returned (.tuple #[.agg [r0, r1].toArray, .int .i64 (prsS c S).2.2]) ∧ Nb w' r0 (prsS c S).1 ∧ Nb w' r1 (prsS c S).2.1 ∧ Below w.heap.size w w'
theorem PrsA.no {w w' : World} {c : Int} {S : List Int} {n : Int} (h : prsS c S = (0, 0, n)) (hb : Below w.heap.size w w') : PrsA w c S (.returned (.tuple #[.agg [.slice none 0 0, .slice none 0 0].toArray, .int .i64 n])) w' := ⟨.slice none 0 0, .slice none 0 0, by rw [h], by rw [h]; exact nil_nb _, by rw [h]; exact nil_nb _, hb⟩
theorem PrsA.yes {w w' : World} {c : Int} {S : List Int} {x y : Nat} {n : Int} {a b : Value} (h : prsS c S = (x, y, n)) (ha : Nb w' a x) (hb' : Nb w' b y) (hb : Below w.heap.size w w') : PrsA w c S (.returned (.tuple #[.agg [a, b].toArray, .int .i64 n])) w' := ⟨a, b, by rw [h], by rw [h]; exact ha, by rw [h]; exact hb', hb⟩
set_option maxHeartbeats 4000000 in
theorem Parse_no {w : World} (c : Int) (hc : crv c = none) (v : Value) (S : List Int) : Calls Try.prog 8 #[.int .i64 c, v] w (PrsA w c S) := by
  have HN : Hid (prsS c S = (0, 0, 1)) := by show _ = _; unfold prsS; rw [hc]
  go_enter Try.func8, Try.ntmps8
  go_upto_region 1 with (fail)
  refine wp_gen (fun W => Blk 27 W w.heap.size [.slice none 0 0, .slice none 0 0] ∧ Below w.heap.size w W) ⟨Blk.new _ w _, al1 _⟩ ?_
  rintro W2 ⟨hB, hBw⟩
  have H2 : Hid (Below w.heap.size w W2 ∧ Blk 27 W2 w.heap.size [.slice none 0 0, .slice none 0 0]) := ⟨hBw, hB⟩
  clear hB hBw
  go_wp2_with fail
  refine (pick_no c hc).mono ?_
  rintro e w3 ⟨rfl, hb3⟩
  have H3 : Hid (Below w.heap.size w w3 ∧ Blk 27 w3 w.heap.size [.slice none 0 0, .slice none 0 0]) := ⟨below_via H2.out.1 hb3 (Nat.le_refl _), below_blk hb3 H2.out.2.lt H2.out.2⟩
  clear hb3 hc
  unfold kz
  go_upto_region 2 with (fail)
  refine wp_gen (fun W => Below w3.heap.size w3 W) (al1 _) ?_
  rintro W4 hb4
  have hB := below_blk hb4 H3.out.2.lt H3.out.2
  have H4 : Hid (Below w.heap.size w W4 ∧ Blk 27 W4 w.heap.size [.slice none 0 0, .slice none 0 0]) := ⟨below_via H3.out.1 hb4 (Nat.le_refl _), hB⟩
  have d0 : W4.cell? ⟨w.heap.size, 0, none⟩ = some (.slice none 0 0) := hB.cell 0
  have d1 : W4.cell? ⟨w.heap.size, 1, none⟩ = some (.slice none 0 0) := hB.cell 1
  have g0 := hB.frozen 0; have g1 := hB.frozen 1
  clear hB hb4
  go_wp2
  obtain ⟨hF, hU⟩ := Blk.put2 H4.out.2 (.slice none 0 0) (.slice none 0 0)
  have hbl := hU.below H4.out.1 H4.out.1.size (Nat.le_refl _)
  exact bodyPost_ret (results_blk2 rfl rfl hF Try.underlying27 rfl Try.sizePt rfl) rfl (by exact PrsA.no HN.out hbl)

set_option maxHeartbeats 8000000 in
theorem Parse_1 {w : World} (a : Option Addr) (n cp : Nat) (S : List Int) (hS : Sl .u8 w (.slice a n cp) S) (uS : U8s S) : Calls Try.prog 8 #[.int .i64 1, .slice a n cp] w (PrsA w 1 S) := by
  have HN : Hid (prsS 1 S = prsC c256 S) := rfl
  obtain ⟨hlen, hcp⟩ : n = S.length ∧ S.length ≤ cp := by obtain ⟨a', c', hv, hc, _⟩ := hS; simp only [Value.slice.injEq] at hv; obtain ⟨rfl, rfl, rfl⟩ := hv; exact ⟨rfl, hc⟩
  have HS : Hid (Sl .u8 w (.slice a n cp) S ∧ U8s S ∧ n = S.length) := ⟨hS, uS, hlen⟩
  have HCp : Hid (S.length ≤ cp) := hcp
  clear hS uS hlen hcp
  go_enter Try.func8, Try.ntmps8
  go_upto_region 1 with (fail)
  refine wp_gen (fun W => Blk 27 W w.heap.size [.slice none 0 0, .slice none 0 0] ∧ Below w.heap.size w W) ⟨Blk.new _ w _, al1 _⟩ ?_
  rintro W2 ⟨hB, hBw⟩
  have H2 : Hid (Below w.heap.size w W2 ∧ Blk 27 W2 w.heap.size [.slice none 0 0, .slice none 0 0]) := ⟨hBw, hB⟩
  clear hB hBw
  go_wp2_with fail
  refine (pick_yes 1 c256 rfl).mono ?_
  rintro e w3 ⟨s, a1, n1, c1, a2, n2, c2, a3, n3, c3, a4, n4, c4, a5, n5, c5, rfl, hk, hb3⟩
  have hs : s = 32 := hk.1
  subst hs
  have H3 : Hid (Below w.heap.size w w3 ∧ Blk 27 w3 w.heap.size [.slice none 0 0, .slice none 0 0] ∧ KindS w3 32 a1 n1 c1 a2 n2 c2 a3 n3 c3 a4 n4 c4 a5 n5 c5 c256) := ⟨below_via H2.out.1 hb3 (Nat.le_refl _), below_blk hb3 H2.out.2.lt H2.out.2, hk⟩
  clear hk hb3 H2
  go_upto_region 2 with (fail)
  refine wp_gen (fun W => Blk 46 W w3.heap.size [.int .i64 32, .slice a1 n1 c1, .slice a2 n2 c2, .slice a3 n3 c3, .slice a4 n4 c4, .slice a5 n5 c5] ∧ Below w3.heap.size w3 W) ⟨Blk.new _ _ _, al1 _⟩ ?_
  rintro W4 ⟨hB4, hb4⟩
  have k0 : W4.cell? ⟨w3.heap.size, 0, none⟩ = some (.int .i64 32) := hB4.cell 0
  have hB := below_blk hb4 H3.out.2.1.lt H3.out.2.1
  have H4 : Hid (Below w.heap.size w W4 ∧ Blk 27 W4 w.heap.size [.slice none 0 0, .slice none 0 0] ∧ KindS W4 32 a1 n1 c1 a2 n2 c2 a3 n3 c3 a4 n4 c4 a5 n5 c5 c256 ∧ Blk 46 W4 w3.heap.size [.int .i64 32, .slice a1 n1 c1, .slice a2 n2 c2, .slice a3 n3 c3, .slice a4 n4 c4, .slice a5 n5 c5]) := ⟨below_via H3.out.1 hb4 (Nat.le_refl _), hB, H3.out.2.2.below hb4, hB4⟩
  have d0 : W4.cell? ⟨w.heap.size, 0, none⟩ = some (.slice none 0 0) := hB.cell 0
  have d1 : W4.cell? ⟨w.heap.size, 1, none⟩ = some (.slice none 0 0) := hB.cell 1
  have g0 := hB.frozen 0; have g1 := hB.frozen 1
  clear hB hB4 hb4 H3
  have hlen := HS.out.2.2
  by_cases hn : n = 65
  · subst hn
    obtain ⟨bb, off, rfl, _⟩ := sl_part HS.out.1 1 32 (by omega) (by omega)
    have q0 : W4.cell? ⟨bb, off, none⟩ = some (.int .u8 (S.getD 0 0)) := by
      obtain ⟨a', c', hv, _, hx⟩ := below_sl H4.out.1 HS.out.1
      simp only [Value.slice.injEq] at hv
      obtain ⟨rfl, _, rfl⟩ := hv
      rcases hx with hx | ⟨b, o, he, _, hr⟩
      · subst hx; simp at hlen
      · simp only [Option.some.injEq, Addr.mk.injEq] at he
        obtain ⟨rfl, rfl, _⟩ := he
        exact hr 0 (by omega)
    obtain ⟨s0, hs0⟩ : ∃ z, S.getD 0 0 = z := ⟨_, rfl⟩
    rw [hs0] at q0
    by_cases h4 : s0 = 4
    · subst h4
      have hc1 : 65 ≤ cp := by have := HCp.out; omega
      have HFx : Hid (∀ W, Below w.heap.size w W → Calls Try.prog 23 #[.slice (some ⟨bb, off + 1, none⟩) 32 (cp - 1)] W fun e w' => ∃ a n c, e = .returned (.tuple #[.slice a n c, .int .i64 0]) ∧ Nb w' (.slice a n c) (bnum ((S.drop 1).take 32)) ∧ Below W.heap.size W w') := fun W hW => by
        obtain ⟨b, o, he, hs⟩ := sl_part (below_sl hW HS.out.1) 1 32 (by omega) (by omega)
        simp only [Option.some.injEq, Addr.mk.injEq] at he
        obtain ⟨rfl, rfl, _⟩ := he
        exact FromB _ _ hs (fun x hx => HS.out.2.1 x (List.mem_of_mem_drop (List.mem_of_mem_take hx))) (by rw [List.length_take]; omega)
      have HFy : Hid (∀ W, Below w.heap.size w W → Calls Try.prog 23 #[.slice (some ⟨bb, off + 33, none⟩) 32 (cp - 33)] W fun e w' => ∃ a n c, e = .returned (.tuple #[.slice a n c, .int .i64 0]) ∧ Nb w' (.slice a n c) (bnum (S.drop (1 + 32))) ∧ Below W.heap.size W w') := fun W hW => by
        obtain ⟨b, o, he, hs⟩ := sl_part (below_sl hW HS.out.1) 33 32 (by omega) (by omega)
        simp only [Option.some.injEq, Addr.mk.injEq] at he
        obtain ⟨rfl, rfl, _⟩ := he
        have e1 : (S.drop 33).take 32 = S.drop (1 + 32) := by rw [List.take_of_length_le (by rw [List.length_drop]; omega)]
        rw [e1] at hs
        exact FromB _ _ hs (fun x hx => HS.out.2.1 x (List.mem_of_mem_drop hx)) (by rw [List.length_drop]; omega)
      have HLx : Hid ((lim (bnum ((S.drop 1).take 32))).length ≤ 1000000) := Nat.le_trans (bnum_len (fun x hx => HS.out.2.1 x (List.mem_of_mem_drop (List.mem_of_mem_take hx)))) (by rw [List.length_take]; omega)
      have HLy : Hid ((lim (bnum (S.drop (1 + 32)))).length ≤ 1000000) := Nat.le_trans (bnum_len (fun x hx => HS.out.2.1 x (List.mem_of_mem_drop hx))) (by rw [List.length_drop]; omega)
      have HE : Hid (prsS 1 S = if farB (lim (bnum ((S.drop 1).take 32))) (lim (bnum (S.drop (1 + 32)))) = false ∧ onB c256.p c256.b (lim (bnum ((S.drop 1).take 32))) (lim (bnum (S.drop (1 + 32)))) = true then (bnum ((S.drop 1).take 32), bnum (S.drop (1 + 32)), 0) else (0, 0, 90)) := by
        show _ = _
        rw [HN.out]; unfold prsC; rw [if_pos ⟨hlen.symm, hs0⟩]; rfl
      obtain ⟨x, hx⟩ : ∃ x, bnum ((S.drop 1).take 32) = x := ⟨_, rfl⟩
      obtain ⟨y, hy⟩ : ∃ y, bnum (S.drop (1 + 32)) = y := ⟨_, rfl⟩
      rw [hx] at HFx HLx HE
      rw [hy] at HFy HLy HE
      clear hlen hs0 HS HN hx hy
      go_wp2_with fail
      refine (HFx.out _ H4.out.1).mono ?_
      rintro e w5 ⟨xa, xn, xc, rfl, hnx, hb5⟩
      have k1 : w5.cell? ⟨w3.heap.size, 0, none⟩ = some (.int .i64 32) := (below_blk hb5 H4.out.2.2.2.lt H4.out.2.2.2).cell 0
      have H5 : Hid (Below W4.heap.size W4 w5 ∧ Nb w5 (.slice xa xn xc) x) := ⟨hb5, hnx⟩
      clear hb5 hnx k0 d0 d1 g0 g1 q0
      go_wp2_with fail
      refine (HFy.out _ (below_via H4.out.1 H5.out.1 (Nat.le_refl _))).mono ?_
      rintro e w6 ⟨ya, yn, yc, rfl, hny, hb6⟩
      have H6 : Hid (Below W4.heap.size W4 w6 ∧ Nb w6 (.slice xa xn xc) x ∧ Nb w6 (.slice ya yn yc) y) := ⟨below_via H5.out.1 hb6 (Nat.le_refl _), H5.out.2.below hb6, hny⟩
      clear hb6 hny k1 H5
      go_upto_region 9 with (fail)
      refine wp_gen (fun W => Blk 27 W w6.heap.size [.slice xa xn xc, .slice ya yn yc] ∧ Below w6.heap.size w6 W) ⟨Blk.new _ _ _, al1 _⟩ ?_
      rintro W7 ⟨hB7, hb7⟩
      have hb47 : Below W4.heap.size W4 W7 := below_via H6.out.1 hb7 (Nat.le_refl _)
      have H7 : Hid (Below w.heap.size w W7 ∧ Nb W7 (.slice xa xn xc) x ∧ Nb W7 (.slice ya yn yc) y ∧ Blk 27 W7 w.heap.size [.slice none 0 0, .slice none 0 0] ∧ KindS W7 32 a1 n1 c1 a2 n2 c2 a3 n3 c3 a4 n4 c4 a5 n5 c5 c256 ∧ Blk 46 W7 w3.heap.size [.int .i64 32, .slice a1 n1 c1, .slice a2 n2 c2, .slice a3 n3 c3, .slice a4 n4 c4, .slice a5 n5 c5] ∧ Blk 27 W7 w6.heap.size [.slice xa xn xc, .slice ya yn yc]) := ⟨below_via H4.out.1 hb47 (Nat.le_refl _), H6.out.2.1.below hb7, H6.out.2.2.below hb7, below_blk hb47 H4.out.2.1.lt H4.out.2.1, H4.out.2.2.1.below hb47, below_blk hb47 H4.out.2.2.2.lt H4.out.2.2.2, hB7⟩
      have p0 : W7.cell? ⟨w6.heap.size, 0, none⟩ = some (.slice xa xn xc) := hB7.cell 0
      have p1 : W7.cell? ⟨w6.heap.size, 1, none⟩ = some (.slice ya yn yc) := hB7.cell 1
      clear hB7 hb7 hb47 H6 H4
      go_wp2_with fail
      refine (PisFar _ _ (lim x) (lim y) H7.out.2.1 H7.out.2.2.1 (lim_u32 _) (lim_u32 _) HLx.out HLy.out).mono ?_
      rintro e w8 ⟨rfl, hb8⟩
      have H8 : Hid (Below w.heap.size w w8 ∧ Nb w8 (.slice xa xn xc) x ∧ Nb w8 (.slice ya yn yc) y ∧ Blk 27 w8 w.heap.size [.slice none 0 0, .slice none 0 0] ∧ KindS w8 32 a1 n1 c1 a2 n2 c2 a3 n3 c3 a4 n4 c4 a5 n5 c5 c256 ∧ Blk 46 w8 w3.heap.size [.int .i64 32, .slice a1 n1 c1, .slice a2 n2 c2, .slice a3 n3 c3, .slice a4 n4 c4, .slice a5 n5 c5] ∧ Blk 27 w8 w6.heap.size [.slice xa xn xc, .slice ya yn yc]) := ⟨below_via H7.out.1 hb8 (Nat.le_refl _), H7.out.2.1.below hb8, H7.out.2.2.1.below hb8, below_blk hb8 H7.out.2.2.2.1.lt H7.out.2.2.2.1, H7.out.2.2.2.2.1.below hb8, below_blk hb8 H7.out.2.2.2.2.2.1.lt H7.out.2.2.2.2.2.1, below_blk hb8 H7.out.2.2.2.2.2.2.lt H7.out.2.2.2.2.2.2⟩
      clear hb8 p0 p1 H7
      cases hf : farB (lim x) (lim y) with
      | true =>
        have HE2 : Hid (prsS 1 S = (0, 0, 90)) := HE.out.trans (if_neg (by rw [hf]; simp))
        have d0 : w8.cell? ⟨w.heap.size, 0, none⟩ = some (.slice none 0 0) := H8.out.2.2.2.1.cell 0
        have d1 : w8.cell? ⟨w.heap.size, 1, none⟩ = some (.slice none 0 0) := H8.out.2.2.2.1.cell 1
        have g0 := H8.out.2.2.2.1.frozen 0; have g1 := H8.out.2.2.2.1.frozen 1
        clear hf HE
        go_wp2
        obtain ⟨hF, hU⟩ := Blk.put2 H8.out.2.2.2.1 (.slice none 0 0) (.slice none 0 0)
        have hbl := hU.below H8.out.1 H8.out.1.size (Nat.le_refl _)
        exact bodyPost_ret (results_blk2 rfl rfl hF Try.underlying27 rfl Try.sizePt rfl) rfl (by exact PrsA.no HE2.out hbl)
      | false =>
        have HE1 : Hid (prsS 1 S = if onB c256.p c256.b (lim x) (lim y) = true then (x, y, 0) else (0, 0, 90)) := by
          show _ = _
          rw [HE.out, hf]; simp only [true_and]
        clear HE hf
        have k0 : w8.cell? ⟨w3.heap.size, 0, none⟩ = some (.int .i64 32) := H8.out.2.2.2.2.2.1.cell 0
        have k1 : w8.cell? ⟨w3.heap.size, 1, none⟩ = some (.slice a1 n1 c1) := H8.out.2.2.2.2.2.1.cell 1
        have k2 : w8.cell? ⟨w3.heap.size, 2, none⟩ = some (.slice a2 n2 c2) := H8.out.2.2.2.2.2.1.cell 2
        have k3 : w8.cell? ⟨w3.heap.size, 3, none⟩ = some (.slice a3 n3 c3) := H8.out.2.2.2.2.2.1.cell 3
        have k4 : w8.cell? ⟨w3.heap.size, 4, none⟩ = some (.slice a4 n4 c4) := H8.out.2.2.2.2.2.1.cell 4
        have k5 : w8.cell? ⟨w3.heap.size, 5, none⟩ = some (.slice a5 n5 c5) := H8.out.2.2.2.2.2.1.cell 5
        have p0 : w8.cell? ⟨w6.heap.size, 0, none⟩ = some (.slice xa xn xc) := H8.out.2.2.2.2.2.2.cell 0
        have p1 : w8.cell? ⟨w6.heap.size, 1, none⟩ = some (.slice ya yn yc) := H8.out.2.2.2.2.2.2.cell 1
        go_wp2_with fail
        refine (Kon _ _ _ _ _ _ _ _ c256.p c256.b (lim x) (lim y) ⟨H8.out.2.2.2.2.1.2.1, by decide +kernel, by decide +kernel⟩ H8.out.2.2.2.2.1.2.2.2.1 (by decide +kernel) H8.out.2.1 H8.out.2.2.1 (lim_u32 _) (lim_u32 _) HLx.out HLy.out).mono ?_
        rintro e w9 ⟨rfl, hb9⟩
        have H9 : Hid (Below w.heap.size w w9 ∧ Nb w9 (.slice xa xn xc) x ∧ Nb w9 (.slice ya yn yc) y ∧ Blk 27 w9 w.heap.size [.slice none 0 0, .slice none 0 0] ∧ Blk 27 w9 w6.heap.size [.slice xa xn xc, .slice ya yn yc]) := ⟨below_via H8.out.1 hb9 (Nat.le_refl _), H8.out.2.1.below hb9, H8.out.2.2.1.below hb9, below_blk hb9 H8.out.2.2.2.1.lt H8.out.2.2.2.1, below_blk hb9 H8.out.2.2.2.2.2.2.lt H8.out.2.2.2.2.2.2⟩
        have d0 : w9.cell? ⟨w.heap.size, 0, none⟩ = some (.slice none 0 0) := H9.out.2.2.2.1.cell 0
        have d1 : w9.cell? ⟨w.heap.size, 1, none⟩ = some (.slice none 0 0) := H9.out.2.2.2.1.cell 1
        have g0 := H9.out.2.2.2.1.frozen 0; have g1 := H9.out.2.2.2.1.frozen 1
        have p2 : w9.cell? ⟨w6.heap.size, 0, none⟩ = some (.slice xa xn xc) := H9.out.2.2.2.2.cell 0
        have p3 : w9.cell? ⟨w6.heap.size, 1, none⟩ = some (.slice ya yn yc) := H9.out.2.2.2.2.cell 1
        clear hb9 p0 p1 k0 k1 k2 k3 k4 k5 H8
        cases ho : onB c256.p c256.b (lim x) (lim y) with
        | true =>
          have HE2 : Hid (prsS 1 S = (x, y, 0)) := HE1.out.trans (if_pos ho)
          clear ho HE1
          go_wp2
          obtain ⟨hF, hU⟩ := Blk.put2 H9.out.2.2.2.1 (.slice xa xn xc) (.slice ya yn yc)
          have hbl := hU.below H9.out.1 H9.out.1.size (Nat.le_refl _)
          exact bodyPost_ret (results_blk2 rfl rfl hF Try.underlying27 rfl Try.sizePt rfl) rfl (by exact PrsA.yes HE2.out (H9.out.2.1.upd H9.out.2.2.2.1 noInts hU) (H9.out.2.2.1.upd H9.out.2.2.2.1 noInts hU) hbl)
        | false =>
          have HE2 : Hid (prsS 1 S = (0, 0, 90)) := HE1.out.trans (if_neg (by rw [ho]; decide))
          clear ho HE1
          go_wp2
          obtain ⟨hF, hU⟩ := Blk.put2 H9.out.2.2.2.1 (.slice none 0 0) (.slice none 0 0)
          have hbl := hU.below H9.out.1 H9.out.1.size (Nat.le_refl _)
          exact bodyPost_ret (results_blk2 rfl rfl hF Try.underlying27 rfl Try.sizePt rfl) rfl (by exact PrsA.no HE2.out hbl)
    · have h40 : (s0 != 4) = true := by simp; exact h4
      have HE : Hid (prsS 1 S = (0, 0, 6)) := by show _ = _; rw [HN.out]; unfold prsC; rw [if_neg (by rw [hs0]; omega)]
      clear hs0 h4 HS hlen
      go_wp2
      obtain ⟨hF, hU⟩ := Blk.put2 H4.out.2.1 (.slice none 0 0) (.slice none 0 0)
      have hbl := hU.below H4.out.1 H4.out.1.size (Nat.le_refl _)
      exact bodyPost_ret (results_blk2 rfl rfl hF Try.underlying27 rfl Try.sizePt rfl) rfl (by exact PrsA.no HE.out hbl)
  · have hn0 : ((n : Int) != 65) = true := by simp; omega
    have HE : Hid (prsS 1 S = (0, 0, 6)) := by show _ = _; rw [HN.out]; unfold prsC; rw [if_neg (by rw [← hlen]; show ¬ (n = 65 ∧ _); omega)]
    clear hn HS hlen
    go_wp2
    obtain ⟨hF, hU⟩ := Blk.put2 H4.out.2.1 (.slice none 0 0) (.slice none 0 0)
    have hbl := hU.below H4.out.1 H4.out.1.size (Nat.le_refl _)
    exact bodyPost_ret (results_blk2 rfl rfl hF Try.underlying27 rfl Try.sizePt rfl) rfl (by exact PrsA.no HE.out hbl)

set_option maxHeartbeats 8000000 in
theorem Parse_2 {w : World} (a : Option Addr) (n cp : Nat) (S : List Int) (hS : Sl .u8 w (.slice a n cp) S) (uS : U8s S) : Calls Try.prog 8 #[.int .i64 2, .slice a n cp] w (PrsA w 2 S) := by
  have HN : Hid (prsS 2 S = prsC c384 S) := rfl
  obtain ⟨hlen, hcp⟩ : n = S.length ∧ S.length ≤ cp := by obtain ⟨a', c', hv, hc, _⟩ := hS; simp only [Value.slice.injEq] at hv; obtain ⟨rfl, rfl, rfl⟩ := hv; exact ⟨rfl, hc⟩
  have HS : Hid (Sl .u8 w (.slice a n cp) S ∧ U8s S ∧ n = S.length) := ⟨hS, uS, hlen⟩
  have HCp : Hid (S.length ≤ cp) := hcp
  clear hS uS hlen hcp
  go_enter Try.func8, Try.ntmps8
  go_upto_region 1 with (fail)
  refine wp_gen (fun W => Blk 27 W w.heap.size [.slice none 0 0, .slice none 0 0] ∧ Below w.heap.size w W) ⟨Blk.new _ w _, al1 _⟩ ?_
  rintro W2 ⟨hB, hBw⟩
  have H2 : Hid (Below w.heap.size w W2 ∧ Blk 27 W2 w.heap.size [.slice none 0 0, .slice none 0 0]) := ⟨hBw, hB⟩
  clear hB hBw
  go_wp2_with fail
  refine (pick_yes 2 c384 rfl).mono ?_
  rintro e w3 ⟨s, a1, n1, c1, a2, n2, c2, a3, n3, c3, a4, n4, c4, a5, n5, c5, rfl, hk, hb3⟩
  have hs : s = 48 := hk.1
  subst hs
  have H3 : Hid (Below w.heap.size w w3 ∧ Blk 27 w3 w.heap.size [.slice none 0 0, .slice none 0 0] ∧ KindS w3 48 a1 n1 c1 a2 n2 c2 a3 n3 c3 a4 n4 c4 a5 n5 c5 c384) := ⟨below_via H2.out.1 hb3 (Nat.le_refl _), below_blk hb3 H2.out.2.lt H2.out.2, hk⟩
  clear hk hb3 H2
  go_upto_region 2 with (fail)
  refine wp_gen (fun W => Blk 46 W w3.heap.size [.int .i64 48, .slice a1 n1 c1, .slice a2 n2 c2, .slice a3 n3 c3, .slice a4 n4 c4, .slice a5 n5 c5] ∧ Below w3.heap.size w3 W) ⟨Blk.new _ _ _, al1 _⟩ ?_
  rintro W4 ⟨hB4, hb4⟩
  have k0 : W4.cell? ⟨w3.heap.size, 0, none⟩ = some (.int .i64 48) := hB4.cell 0
  have hB := below_blk hb4 H3.out.2.1.lt H3.out.2.1
  have H4 : Hid (Below w.heap.size w W4 ∧ Blk 27 W4 w.heap.size [.slice none 0 0, .slice none 0 0] ∧ KindS W4 48 a1 n1 c1 a2 n2 c2 a3 n3 c3 a4 n4 c4 a5 n5 c5 c384 ∧ Blk 46 W4 w3.heap.size [.int .i64 48, .slice a1 n1 c1, .slice a2 n2 c2, .slice a3 n3 c3, .slice a4 n4 c4, .slice a5 n5 c5]) := ⟨below_via H3.out.1 hb4 (Nat.le_refl _), hB, H3.out.2.2.below hb4, hB4⟩
  have d0 : W4.cell? ⟨w.heap.size, 0, none⟩ = some (.slice none 0 0) := hB.cell 0
  have d1 : W4.cell? ⟨w.heap.size, 1, none⟩ = some (.slice none 0 0) := hB.cell 1
  have g0 := hB.frozen 0; have g1 := hB.frozen 1
  clear hB hB4 hb4 H3
  have hlen := HS.out.2.2
  by_cases hn : n = 97
  · subst hn
    obtain ⟨bb, off, rfl, _⟩ := sl_part HS.out.1 1 48 (by omega) (by omega)
    have q0 : W4.cell? ⟨bb, off, none⟩ = some (.int .u8 (S.getD 0 0)) := by
      obtain ⟨a', c', hv, _, hx⟩ := below_sl H4.out.1 HS.out.1
      simp only [Value.slice.injEq] at hv
      obtain ⟨rfl, _, rfl⟩ := hv
      rcases hx with hx | ⟨b, o, he, _, hr⟩
      · subst hx; simp at hlen
      · simp only [Option.some.injEq, Addr.mk.injEq] at he
        obtain ⟨rfl, rfl, _⟩ := he
        exact hr 0 (by omega)
    obtain ⟨s0, hs0⟩ : ∃ z, S.getD 0 0 = z := ⟨_, rfl⟩
    rw [hs0] at q0
    by_cases h4 : s0 = 4
    · subst h4
      have hc1 : 97 ≤ cp := by have := HCp.out; omega
      have HFx : Hid (∀ W, Below w.heap.size w W → Calls Try.prog 23 #[.slice (some ⟨bb, off + 1, none⟩) 48 (cp - 1)] W fun e w' => ∃ a n c, e = .returned (.tuple #[.slice a n c, .int .i64 0]) ∧ Nb w' (.slice a n c) (bnum ((S.drop 1).take 48)) ∧ Below W.heap.size W w') := fun W hW => by
        obtain ⟨b, o, he, hs⟩ := sl_part (below_sl hW HS.out.1) 1 48 (by omega) (by omega)
        simp only [Option.some.injEq, Addr.mk.injEq] at he
        obtain ⟨rfl, rfl, _⟩ := he
        exact FromB _ _ hs (fun x hx => HS.out.2.1 x (List.mem_of_mem_drop (List.mem_of_mem_take hx))) (by rw [List.length_take]; omega)
      have HFy : Hid (∀ W, Below w.heap.size w W → Calls Try.prog 23 #[.slice (some ⟨bb, off + 49, none⟩) 48 (cp - 49)] W fun e w' => ∃ a n c, e = .returned (.tuple #[.slice a n c, .int .i64 0]) ∧ Nb w' (.slice a n c) (bnum (S.drop (1 + 48))) ∧ Below W.heap.size W w') := fun W hW => by
        obtain ⟨b, o, he, hs⟩ := sl_part (below_sl hW HS.out.1) 49 48 (by omega) (by omega)
        simp only [Option.some.injEq, Addr.mk.injEq] at he
        obtain ⟨rfl, rfl, _⟩ := he
        have e1 : (S.drop 49).take 48 = S.drop (1 + 48) := by rw [List.take_of_length_le (by rw [List.length_drop]; omega)]
        rw [e1] at hs
        exact FromB _ _ hs (fun x hx => HS.out.2.1 x (List.mem_of_mem_drop hx)) (by rw [List.length_drop]; omega)
      have HLx : Hid ((lim (bnum ((S.drop 1).take 48))).length ≤ 1000000) := Nat.le_trans (bnum_len (fun x hx => HS.out.2.1 x (List.mem_of_mem_drop (List.mem_of_mem_take hx)))) (by rw [List.length_take]; omega)
      have HLy : Hid ((lim (bnum (S.drop (1 + 48)))).length ≤ 1000000) := Nat.le_trans (bnum_len (fun x hx => HS.out.2.1 x (List.mem_of_mem_drop hx))) (by rw [List.length_drop]; omega)
      have HE : Hid (prsS 2 S = if farB (lim (bnum ((S.drop 1).take 48))) (lim (bnum (S.drop (1 + 48)))) = false ∧ onB c384.p c384.b (lim (bnum ((S.drop 1).take 48))) (lim (bnum (S.drop (1 + 48)))) = true then (bnum ((S.drop 1).take 48), bnum (S.drop (1 + 48)), 0) else (0, 0, 90)) := by
        show _ = _
        rw [HN.out]; unfold prsC; rw [if_pos ⟨hlen.symm, hs0⟩]; rfl
      obtain ⟨x, hx⟩ : ∃ x, bnum ((S.drop 1).take 48) = x := ⟨_, rfl⟩
      obtain ⟨y, hy⟩ : ∃ y, bnum (S.drop (1 + 48)) = y := ⟨_, rfl⟩
      rw [hx] at HFx HLx HE
      rw [hy] at HFy HLy HE
      clear hlen hs0 HS HN hx hy
      go_wp2_with fail
      refine (HFx.out _ H4.out.1).mono ?_
      rintro e w5 ⟨xa, xn, xc, rfl, hnx, hb5⟩
      have k1 : w5.cell? ⟨w3.heap.size, 0, none⟩ = some (.int .i64 48) := (below_blk hb5 H4.out.2.2.2.lt H4.out.2.2.2).cell 0
      have H5 : Hid (Below W4.heap.size W4 w5 ∧ Nb w5 (.slice xa xn xc) x) := ⟨hb5, hnx⟩
      clear hb5 hnx k0 d0 d1 g0 g1 q0
      go_wp2_with fail
      refine (HFy.out _ (below_via H4.out.1 H5.out.1 (Nat.le_refl _))).mono ?_
      rintro e w6 ⟨ya, yn, yc, rfl, hny, hb6⟩
      have H6 : Hid (Below W4.heap.size W4 w6 ∧ Nb w6 (.slice xa xn xc) x ∧ Nb w6 (.slice ya yn yc) y) := ⟨below_via H5.out.1 hb6 (Nat.le_refl _), H5.out.2.below hb6, hny⟩
      clear hb6 hny k1 H5
      go_upto_region 9 with (fail)
      refine wp_gen (fun W => Blk 27 W w6.heap.size [.slice xa xn xc, .slice ya yn yc] ∧ Below w6.heap.size w6 W) ⟨Blk.new _ _ _, al1 _⟩ ?_
      rintro W7 ⟨hB7, hb7⟩
      have hb47 : Below W4.heap.size W4 W7 := below_via H6.out.1 hb7 (Nat.le_refl _)
      have H7 : Hid (Below w.heap.size w W7 ∧ Nb W7 (.slice xa xn xc) x ∧ Nb W7 (.slice ya yn yc) y ∧ Blk 27 W7 w.heap.size [.slice none 0 0, .slice none 0 0] ∧ KindS W7 48 a1 n1 c1 a2 n2 c2 a3 n3 c3 a4 n4 c4 a5 n5 c5 c384 ∧ Blk 46 W7 w3.heap.size [.int .i64 48, .slice a1 n1 c1, .slice a2 n2 c2, .slice a3 n3 c3, .slice a4 n4 c4, .slice a5 n5 c5] ∧ Blk 27 W7 w6.heap.size [.slice xa xn xc, .slice ya yn yc]) := ⟨below_via H4.out.1 hb47 (Nat.le_refl _), H6.out.2.1.below hb7, H6.out.2.2.below hb7, below_blk hb47 H4.out.2.1.lt H4.out.2.1, H4.out.2.2.1.below hb47, below_blk hb47 H4.out.2.2.2.lt H4.out.2.2.2, hB7⟩
      have p0 : W7.cell? ⟨w6.heap.size, 0, none⟩ = some (.slice xa xn xc) := hB7.cell 0
      have p1 : W7.cell? ⟨w6.heap.size, 1, none⟩ = some (.slice ya yn yc) := hB7.cell 1
      clear hB7 hb7 hb47 H6 H4
      go_wp2_with fail
      refine (PisFar _ _ (lim x) (lim y) H7.out.2.1 H7.out.2.2.1 (lim_u32 _) (lim_u32 _) HLx.out HLy.out).mono ?_
      rintro e w8 ⟨rfl, hb8⟩
      have H8 : Hid (Below w.heap.size w w8 ∧ Nb w8 (.slice xa xn xc) x ∧ Nb w8 (.slice ya yn yc) y ∧ Blk 27 w8 w.heap.size [.slice none 0 0, .slice none 0 0] ∧ KindS w8 48 a1 n1 c1 a2 n2 c2 a3 n3 c3 a4 n4 c4 a5 n5 c5 c384 ∧ Blk 46 w8 w3.heap.size [.int .i64 48, .slice a1 n1 c1, .slice a2 n2 c2, .slice a3 n3 c3, .slice a4 n4 c4, .slice a5 n5 c5] ∧ Blk 27 w8 w6.heap.size [.slice xa xn xc, .slice ya yn yc]) := ⟨below_via H7.out.1 hb8 (Nat.le_refl _), H7.out.2.1.below hb8, H7.out.2.2.1.below hb8, below_blk hb8 H7.out.2.2.2.1.lt H7.out.2.2.2.1, H7.out.2.2.2.2.1.below hb8, below_blk hb8 H7.out.2.2.2.2.2.1.lt H7.out.2.2.2.2.2.1, below_blk hb8 H7.out.2.2.2.2.2.2.lt H7.out.2.2.2.2.2.2⟩
      clear hb8 p0 p1 H7
      cases hf : farB (lim x) (lim y) with
      | true =>
        have HE2 : Hid (prsS 2 S = (0, 0, 90)) := HE.out.trans (if_neg (by rw [hf]; simp))
        have d0 : w8.cell? ⟨w.heap.size, 0, none⟩ = some (.slice none 0 0) := H8.out.2.2.2.1.cell 0
        have d1 : w8.cell? ⟨w.heap.size, 1, none⟩ = some (.slice none 0 0) := H8.out.2.2.2.1.cell 1
        have g0 := H8.out.2.2.2.1.frozen 0; have g1 := H8.out.2.2.2.1.frozen 1
        clear hf HE
        go_wp2
        obtain ⟨hF, hU⟩ := Blk.put2 H8.out.2.2.2.1 (.slice none 0 0) (.slice none 0 0)
        have hbl := hU.below H8.out.1 H8.out.1.size (Nat.le_refl _)
        exact bodyPost_ret (results_blk2 rfl rfl hF Try.underlying27 rfl Try.sizePt rfl) rfl (by exact PrsA.no HE2.out hbl)
      | false =>
        have HE1 : Hid (prsS 2 S = if onB c384.p c384.b (lim x) (lim y) = true then (x, y, 0) else (0, 0, 90)) := by
          show _ = _
          rw [HE.out, hf]; simp only [true_and]
        clear HE hf
        have k0 : w8.cell? ⟨w3.heap.size, 0, none⟩ = some (.int .i64 48) := H8.out.2.2.2.2.2.1.cell 0
        have k1 : w8.cell? ⟨w3.heap.size, 1, none⟩ = some (.slice a1 n1 c1) := H8.out.2.2.2.2.2.1.cell 1
        have k2 : w8.cell? ⟨w3.heap.size, 2, none⟩ = some (.slice a2 n2 c2) := H8.out.2.2.2.2.2.1.cell 2
        have k3 : w8.cell? ⟨w3.heap.size, 3, none⟩ = some (.slice a3 n3 c3) := H8.out.2.2.2.2.2.1.cell 3
        have k4 : w8.cell? ⟨w3.heap.size, 4, none⟩ = some (.slice a4 n4 c4) := H8.out.2.2.2.2.2.1.cell 4
        have k5 : w8.cell? ⟨w3.heap.size, 5, none⟩ = some (.slice a5 n5 c5) := H8.out.2.2.2.2.2.1.cell 5
        have p0 : w8.cell? ⟨w6.heap.size, 0, none⟩ = some (.slice xa xn xc) := H8.out.2.2.2.2.2.2.cell 0
        have p1 : w8.cell? ⟨w6.heap.size, 1, none⟩ = some (.slice ya yn yc) := H8.out.2.2.2.2.2.2.cell 1
        go_wp2_with fail
        refine (Kon _ _ _ _ _ _ _ _ c384.p c384.b (lim x) (lim y) ⟨H8.out.2.2.2.2.1.2.1, by decide +kernel, by decide +kernel⟩ H8.out.2.2.2.2.1.2.2.2.1 (by decide +kernel) H8.out.2.1 H8.out.2.2.1 (lim_u32 _) (lim_u32 _) HLx.out HLy.out).mono ?_
        rintro e w9 ⟨rfl, hb9⟩
        have H9 : Hid (Below w.heap.size w w9 ∧ Nb w9 (.slice xa xn xc) x ∧ Nb w9 (.slice ya yn yc) y ∧ Blk 27 w9 w.heap.size [.slice none 0 0, .slice none 0 0] ∧ Blk 27 w9 w6.heap.size [.slice xa xn xc, .slice ya yn yc]) := ⟨below_via H8.out.1 hb9 (Nat.le_refl _), H8.out.2.1.below hb9, H8.out.2.2.1.below hb9, below_blk hb9 H8.out.2.2.2.1.lt H8.out.2.2.2.1, below_blk hb9 H8.out.2.2.2.2.2.2.lt H8.out.2.2.2.2.2.2⟩
        have d0 : w9.cell? ⟨w.heap.size, 0, none⟩ = some (.slice none 0 0) := H9.out.2.2.2.1.cell 0
        have d1 : w9.cell? ⟨w.heap.size, 1, none⟩ = some (.slice none 0 0) := H9.out.2.2.2.1.cell 1
        have g0 := H9.out.2.2.2.1.frozen 0; have g1 := H9.out.2.2.2.1.frozen 1
        have p2 : w9.cell? ⟨w6.heap.size, 0, none⟩ = some (.slice xa xn xc) := H9.out.2.2.2.2.cell 0
        have p3 : w9.cell? ⟨w6.heap.size, 1, none⟩ = some (.slice ya yn yc) := H9.out.2.2.2.2.cell 1
        clear hb9 p0 p1 k0 k1 k2 k3 k4 k5 H8
        cases ho : onB c384.p c384.b (lim x) (lim y) with
        | true =>
          have HE2 : Hid (prsS 2 S = (x, y, 0)) := HE1.out.trans (if_pos ho)
          clear ho HE1
          go_wp2
          obtain ⟨hF, hU⟩ := Blk.put2 H9.out.2.2.2.1 (.slice xa xn xc) (.slice ya yn yc)
          have hbl := hU.below H9.out.1 H9.out.1.size (Nat.le_refl _)
          exact bodyPost_ret (results_blk2 rfl rfl hF Try.underlying27 rfl Try.sizePt rfl) rfl (by exact PrsA.yes HE2.out (H9.out.2.1.upd H9.out.2.2.2.1 noInts hU) (H9.out.2.2.1.upd H9.out.2.2.2.1 noInts hU) hbl)
        | false =>
          have HE2 : Hid (prsS 2 S = (0, 0, 90)) := HE1.out.trans (if_neg (by rw [ho]; decide))
          clear ho HE1
          go_wp2
          obtain ⟨hF, hU⟩ := Blk.put2 H9.out.2.2.2.1 (.slice none 0 0) (.slice none 0 0)
          have hbl := hU.below H9.out.1 H9.out.1.size (Nat.le_refl _)
          exact bodyPost_ret (results_blk2 rfl rfl hF Try.underlying27 rfl Try.sizePt rfl) rfl (by exact PrsA.no HE2.out hbl)
    · have h40 : (s0 != 4) = true := by simp; exact h4
      have HE : Hid (prsS 2 S = (0, 0, 6)) := by show _ = _; rw [HN.out]; unfold prsC; rw [if_neg (by rw [hs0]; omega)]
      clear hs0 h4 HS hlen
      go_wp2
      obtain ⟨hF, hU⟩ := Blk.put2 H4.out.2.1 (.slice none 0 0) (.slice none 0 0)
      have hbl := hU.below H4.out.1 H4.out.1.size (Nat.le_refl _)
      exact bodyPost_ret (results_blk2 rfl rfl hF Try.underlying27 rfl Try.sizePt rfl) rfl (by exact PrsA.no HE.out hbl)
  · have hn0 : ((n : Int) != 97) = true := by simp; omega
    have HE : Hid (prsS 2 S = (0, 0, 6)) := by show _ = _; rw [HN.out]; unfold prsC; rw [if_neg (by rw [← hlen]; show ¬ (n = 97 ∧ _); omega)]
    clear hn HS hlen
    go_wp2
    obtain ⟨hF, hU⟩ := Blk.put2 H4.out.2.1 (.slice none 0 0) (.slice none 0 0)
    have hbl := hU.below H4.out.1 H4.out.1.size (Nat.le_refl _)
    exact bodyPost_ret (results_blk2 rfl rfl hF Try.underlying27 rfl Try.sizePt rfl) rfl (by exact PrsA.no HE.out hbl)

theorem Parse_any {w : World} (c : Int) (a : Option Addr) (n cp : Nat) (S : List Int) (hS : Sl .u8 w (.slice a n cp) S) (uS : U8s S) : Calls Try.prog 8 #[.int .i64 c, .slice a n cp] w (PrsA w c S) := by
  by_cases h1 : c = 1
  · subst h1; exact Parse_1 a n cp S hS uS
  by_cases h2 : c = 2
  · subst h2; exact Parse_2 a n cp S hS uS
  · exact Parse_no c (by unfold crv; rw [if_neg h1, if_neg h2]) _ S

end Go.Proofs.Yteagdgbcfbkfbab
/-
  Curve: asked, where there is no such curve, or its point is not on it. (wip/mku37.py)
-/
namespace Go.Proofs.Yteagdgbcfbkfbab
open Go.RowKit
set_option maxRecDepth 20000
set_option maxHeartbeats 4000000 in
theorem asked_no {w : World} (c : Int) (hc : crv c = none) (v u : Value) :
    Calls Try.prog 17 #[.int .i64 c, v, u] w fun e w' => e = .returned (.tuple #[.agg kz.toArray, .int .i64 1]) ∧ Below w.heap.size w w' := by
  go_enter Try.func17, Try.ntmps17
  go_wp2_with fail
  refine (pick_no c hc).mono ?_
  rintro e w3 ⟨rfl, hb3⟩
  have H3 : Hid (Below w.heap.size w w3 ∧ Blk 46 w3 w.heap.size kz) := ⟨below_via (al1 _) hb3 (Nat.le_refl _), below_blk hb3 (newKd w).lt (newKd w)⟩
  clear hb3 hc
  unfold kz
  go_upto_region 2 with (fail)
  refine wp_gen (fun W => Below w3.heap.size w3 W) (al1 _) ?_
  rintro y0 hb4
  have L0 : Hid (Below w.heap.size w y0 ∧ Blk 46 y0 w.heap.size kz) := ⟨below_via H3.out.1 hb4 (Nat.le_refl _), below_blk hb4 H3.out.2.lt H3.out.2⟩
  clear hb4
  have d0 : y0.cell? ⟨w.heap.size, 0, none⟩ = some (.int .i64 0) := L0.out.2.cell 0
  have g0 : y0.frozen? ⟨w.heap.size, 0, none⟩ = false := L0.out.2.frozen 0
  have d1 : y0.cell? ⟨w.heap.size, 1, none⟩ = some (.slice none 0 0) := L0.out.2.cell 1
  have g1 : y0.frozen? ⟨w.heap.size, 1, none⟩ = false := L0.out.2.frozen 1
  have d2 : y0.cell? ⟨w.heap.size, 2, none⟩ = some (.slice none 0 0) := L0.out.2.cell 2
  have g2 : y0.frozen? ⟨w.heap.size, 2, none⟩ = false := L0.out.2.frozen 2
  have d3 : y0.cell? ⟨w.heap.size, 3, none⟩ = some (.slice none 0 0) := L0.out.2.cell 3
  have g3 : y0.frozen? ⟨w.heap.size, 3, none⟩ = false := L0.out.2.frozen 3
  have d4 : y0.cell? ⟨w.heap.size, 4, none⟩ = some (.slice none 0 0) := L0.out.2.cell 4
  have g4 : y0.frozen? ⟨w.heap.size, 4, none⟩ = false := L0.out.2.frozen 4
  have d5 : y0.cell? ⟨w.heap.size, 5, none⟩ = some (.slice none 0 0) := L0.out.2.cell 5
  have g5 : y0.frozen? ⟨w.heap.size, 5, none⟩ = false := L0.out.2.frozen 5
  go_wp2
  obtain ⟨hF, hU⟩ := Blk.put6 L0.out.2 (.int .i64 0) (.slice none 0 0) (.slice none 0 0) (.slice none 0 0) (.slice none 0 0) (.slice none 0 0)
  exact bodyPost_ret (results_blk2 rfl rfl hF Try.underlying46 rfl Try.sizeKd rfl) rfl ⟨rfl, hU.below L0.out.1 L0.out.1.size (Nat.le_refl _)⟩
set_option maxHeartbeats 4000000 in
theorem asked_off {w : World} (c : Int) (C : Cv) (hc : crv c = some C)  (bp : Nat) (Tp : TypeId) (vx0 vy0 : Value) (X0 Y0 : List Int) (hP : Blk Tp w bp [vx0, vy0]) (hX0 : Sl .u32 w vx0 X0) (hY0 : Sl .u32 w vy0 Y0) (uX0 : U32s X0) (uY0 : U32s Y0) (lX0 : X0.length ≤ 1000000) (lY0 : Y0.length ≤ 1000000) (ho0 : onB C.p C.b X0 Y0 = false) :
    Calls Try.prog 17 #[.int .i64 c, .slice none 0 0, .slice (some ⟨bp, 0, none⟩) 1 1] w fun e w' => e = .returned (.tuple #[.agg kz.toArray, .int .i64 90]) ∧ Below w.heap.size w w' := by
  obtain ⟨xa0, xc0, rfl⟩ : ∃ a c, vx0 = .slice a X0.length c := by obtain ⟨a, c, h1, _⟩ := hX0; exact ⟨a, c, h1⟩
  obtain ⟨ya0, yc0, rfl⟩ : ∃ a c, vy0 = .slice a Y0.length c := by obtain ⟨a, c, h1, _⟩ := hY0; exact ⟨a, c, h1⟩
  obtain ⟨xn0, hxn0⟩ : ∃ n, X0.length = n := ⟨_, rfl⟩
  obtain ⟨yn0, hyn0⟩ : ∃ n, Y0.length = n := ⟨_, rfl⟩
  rw [hxn0, hyn0] at hP; rw [hxn0] at hX0; rw [hyn0] at hY0
  have HX0 : Hid (∀ W f rb v0 v2 v4 v5, Below w.heap.size w W → Fld W f C.p → Nb W rb C.b → Calls Try.prog 24 #[.agg #[v0, f, v2, rb, v4, v5], .agg #[(.slice xa0 xn0 xc0), (.slice ya0 yn0 yc0)]] W fun e w' => e = .returned (.bool false) ∧ Below W.heap.size W w') := fun W f rb v0 v2 v4 v5 hW hf hb => ho0 ▸ Kon v0 f v2 rb v4 v5 (.slice xa0 xn0 xc0) (.slice ya0 yn0 yc0) C.p C.b X0 Y0 hf hb (crv_ok hc).2.2.1 (below_sl hW hX0) (below_sl hW hY0) uX0 uY0 lX0 lY0
  have HP : Hid (∀ W, Below w.heap.size w W → Blk Tp W bp [(.slice xa0 xn0 xc0), (.slice ya0 yn0 yc0)]) := fun W hW => below_blk hW hP.lt hP
  have HK : Hid (0 < C.p ∧ C.p < 4294967296 ^ 12) := ⟨(crv_ok hc).1, (crv_ok hc).2.1⟩
  clear hxn0 hyn0 hX0 hY0 uX0 uY0 lX0 lY0 ho0 hP
  go_enter Try.func17, Try.ntmps17
  go_wp2_with fail
  refine (pick_yes c C hc).mono ?_
  rintro e w3 ⟨s, a1, n1, c1, a2, n2, c2, a3, n3, c3, a4, n4, c4, a5, n5, c5, rfl, hk, hb3⟩
  have H3 : Hid (Below w.heap.size w w3 ∧ KindS w3 s a1 n1 c1 a2 n2 c2 a3 n3 c3 a4 n4 c4 a5 n5 c5 C ∧ Blk 46 w3 w.heap.size kz) := ⟨below_via (al1 _) hb3 (Nat.le_refl _), hk, below_blk hb3 (newKd w).lt (newKd w)⟩
  clear hb3 hc hk
  go_upto_region 2 with (fail)
  refine wp_gen (fun W => Blk 46 W w3.heap.size [.int .i64 s, .slice a1 n1 c1, .slice a2 n2 c2, .slice a3 n3 c3, .slice a4 n4 c4, .slice a5 n5 c5] ∧ Below w3.heap.size w3 W) ⟨Blk.new _ _ _, al1 _⟩ ?_
  rintro W4 ⟨hB4, hb4⟩
  have H4 : Hid (Below w.heap.size w W4 ∧ KindS W4 s a1 n1 c1 a2 n2 c2 a3 n3 c3 a4 n4 c4 a5 n5 c5 C ∧ Blk 46 W4 w.heap.size kz ∧ Blk 46 W4 w3.heap.size [.int .i64 s, .slice a1 n1 c1, .slice a2 n2 c2, .slice a3 n3 c3, .slice a4 n4 c4, .slice a5 n5 c5]) := ⟨below_via H3.out.1 hb4 (Nat.le_refl _), H3.out.2.1.below hb4, below_blk hb4 H3.out.2.2.lt H3.out.2.2, hB4⟩
  clear hb4 hB4
  go_wp2
  refine wp_loop_rounds 1 ?_
  rw [rounds_succ]
  go_wp2
  refine wp_loop_rounds 2 ?_
  rw [rounds_succ]
  have p0 : W4.cell? ⟨bp, 0, none⟩ = some (.slice xa0 xn0 xc0) := (HP.out _ H4.out.1).cell 0
  have p1 : W4.cell? ⟨bp, 1, none⟩ = some (.slice ya0 yn0 yc0) := (HP.out _ H4.out.1).cell 1
  go_upto_region 13 with (fail)
  refine wp_gen (fun W => Blk 27 W W4.heap.size [(.slice xa0 xn0 xc0), (.slice ya0 yn0 yc0)] ∧ Below W4.heap.size W4 W) ⟨Blk.new _ _ _, al1 _⟩ ?_
  rintro V0 ⟨hB, hb⟩
  have J0 : Hid (Below w.heap.size w V0 ∧ KindS V0 s a1 n1 c1 a2 n2 c2 a3 n3 c3 a4 n4 c4 a5 n5 c5 C ∧ Blk 46 V0 w.heap.size kz ∧ Blk 46 V0 w3.heap.size [.int .i64 s, .slice a1 n1 c1, .slice a2 n2 c2, .slice a3 n3 c3, .slice a4 n4 c4, .slice a5 n5 c5] ∧ Below W4.heap.size W4 V0) := ⟨below_via H4.out.1 hb (Nat.le_refl _), H4.out.2.1.below hb, below_blk hb H4.out.2.2.1.lt H4.out.2.2.1, below_blk hb H4.out.2.2.2.lt H4.out.2.2.2, hb⟩
  have k0 : V0.cell? ⟨w3.heap.size, 0, none⟩ = some (.int .i64 s) := J0.out.2.2.2.1.cell 0
  have k1 : V0.cell? ⟨w3.heap.size, 1, none⟩ = some (.slice a1 n1 c1) := J0.out.2.2.2.1.cell 1
  have k2 : V0.cell? ⟨w3.heap.size, 2, none⟩ = some (.slice a2 n2 c2) := J0.out.2.2.2.1.cell 2
  have k3 : V0.cell? ⟨w3.heap.size, 3, none⟩ = some (.slice a3 n3 c3) := J0.out.2.2.2.1.cell 3
  have k4 : V0.cell? ⟨w3.heap.size, 4, none⟩ = some (.slice a4 n4 c4) := J0.out.2.2.2.1.cell 4
  have k5 : V0.cell? ⟨w3.heap.size, 5, none⟩ = some (.slice a5 n5 c5) := J0.out.2.2.2.1.cell 5
  have q0 : V0.cell? ⟨W4.heap.size, 0, none⟩ = some (.slice xa0 xn0 xc0) := hB.cell 0
  have q1 : V0.cell? ⟨W4.heap.size, 1, none⟩ = some (.slice ya0 yn0 yc0) := hB.cell 1
  clear p0 p1 hB hb
  go_wp2_with fail
  refine (HX0.out _ _ _ _ _ _ _ J0.out.1 ⟨J0.out.2.1.2.1, HK.out.1, HK.out.2⟩ J0.out.2.1.2.2.2.1).mono ?_
  rintro e y0 ⟨rfl, hb⟩
  have L0 : Hid (Below w.heap.size w y0 ∧ KindS y0 s a1 n1 c1 a2 n2 c2 a3 n3 c3 a4 n4 c4 a5 n5 c5 C ∧ Blk 46 y0 w.heap.size kz ∧ Blk 46 y0 w3.heap.size [.int .i64 s, .slice a1 n1 c1, .slice a2 n2 c2, .slice a3 n3 c3, .slice a4 n4 c4, .slice a5 n5 c5] ∧ True) := ⟨below_via J0.out.1 hb (Nat.le_refl _), J0.out.2.1.below hb, below_blk hb J0.out.2.2.1.lt J0.out.2.2.1, below_blk hb J0.out.2.2.2.1.lt J0.out.2.2.2.1, trivial⟩
  clear hb q0 q1 k0 k1 k2 k3 k4 k5
  have d0 : y0.cell? ⟨w.heap.size, 0, none⟩ = some (.int .i64 0) := L0.out.2.2.1.cell 0
  have g0 : y0.frozen? ⟨w.heap.size, 0, none⟩ = false := L0.out.2.2.1.frozen 0
  have d1 : y0.cell? ⟨w.heap.size, 1, none⟩ = some (.slice none 0 0) := L0.out.2.2.1.cell 1
  have g1 : y0.frozen? ⟨w.heap.size, 1, none⟩ = false := L0.out.2.2.1.frozen 1
  have d2 : y0.cell? ⟨w.heap.size, 2, none⟩ = some (.slice none 0 0) := L0.out.2.2.1.cell 2
  have g2 : y0.frozen? ⟨w.heap.size, 2, none⟩ = false := L0.out.2.2.1.frozen 2
  have d3 : y0.cell? ⟨w.heap.size, 3, none⟩ = some (.slice none 0 0) := L0.out.2.2.1.cell 3
  have g3 : y0.frozen? ⟨w.heap.size, 3, none⟩ = false := L0.out.2.2.1.frozen 3
  have d4 : y0.cell? ⟨w.heap.size, 4, none⟩ = some (.slice none 0 0) := L0.out.2.2.1.cell 4
  have g4 : y0.frozen? ⟨w.heap.size, 4, none⟩ = false := L0.out.2.2.1.frozen 4
  have d5 : y0.cell? ⟨w.heap.size, 5, none⟩ = some (.slice none 0 0) := L0.out.2.2.1.cell 5
  have g5 : y0.frozen? ⟨w.heap.size, 5, none⟩ = false := L0.out.2.2.1.frozen 5
  go_wp2
  obtain ⟨hF, hU⟩ := Blk.put6 L0.out.2.2.1 (.int .i64 0) (.slice none 0 0) (.slice none 0 0) (.slice none 0 0) (.slice none 0 0) (.slice none 0 0)
  exact bodyPost_ret (results_blk2 rfl rfl hF Try.underlying46 rfl Try.sizeKd rfl) rfl ⟨rfl, hU.below L0.out.1 L0.out.1.size (Nat.le_refl _)⟩
end Go.Proofs.Yteagdgbcfbkfbab
