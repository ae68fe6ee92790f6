/-
  Alg: the page's examples, walked.
-/
import Derived.Test.YtillkhjihggcjaaGreatDoorK26
namespace Go.Proofs.YtillkhjihggcjaaGreatDoor
open Go.RowKit
set_option maxRecDepth 20000
set_option maxHeartbeats 4000000 in
theorem live11_any {w : World} {an ak : Addr} (hG : Glb w an ak) (hT : P10 w) : Calls Tryz.prog 6 #[] w fun e w' => e = .returned (.bool true) ∧ Below w.heap.size w w' := by
  have HG : Hid (Glb w an ak ∧ P10 w) := ⟨hG, hT⟩
  clear hG hT
  go_enter Tryz.func6, Tryz.ntmps6
  go_wp2_with fail
  refine (ROne_any (.slice (some ⟨w.heap.size, 0, none⟩) 11 11) exX (Arr.sl (S := exX) (arr_nw rfl rfl)) ex7.1 (by decide)).mono ?_
  rintro e w1 ⟨ho, hb1⟩
  rw [ex1] at ho
  obtain ⟨b1, m1, d1, b2, m2, d2, rfl, hd, hr⟩ := ho
  have H1 : Hid (Below w.heap.size w w1 ∧ Sl .u8 w1 (.slice b1 m1 d1) exXe.d) := ⟨below_via (al1 _) hb1 (Nat.le_refl _), hd.sl⟩
  clear hb1 hd hr
  simp only [exXe]
  go_upto_region 2 with (fail)
  refine wp_gen (fun W => Blk 24 W w1.heap.size [.int .i64 0, .int .i64 16, .bool true, .slice b1 m1 d1, .slice b2 m2 d2] ∧ Below w1.heap.size w1 W) ⟨Blk.new _ w1 _, al1 _⟩ ?_
  rintro W2 ⟨hB, hBw⟩
  have H2 : Hid (Below w1.heap.size w1 W2 ∧ Below w.heap.size w W2 ∧ ∀ W, Below W2.heap.size W2 W → W.cell? ⟨w1.heap.size, 0, none⟩ = some (.int .i64 0) ∧ W.cell? ⟨w1.heap.size, 1, none⟩ = some (.int .i64 16) ∧ W.cell? ⟨w1.heap.size, 2, none⟩ = some (.bool true) ∧ W.cell? ⟨w1.heap.size, 3, none⟩ = some (.slice b1 m1 d1) ∧ W.cell? ⟨w1.heap.size, 4, none⟩ = some (.slice b2 m2 d2)) := ⟨hBw, below_via H1.out.1 hBw (Nat.le_refl _), fun W h => by
    have q := below_blk h hB.lt hB
    exact ⟨q.cell 0, q.cell 1, q.cell 2, q.cell 3, q.cell 4⟩⟩
  clear hB hBw
  obtain ⟨x0, x1, x2, x3, x4⟩ := H2.out.2.2 W2 (Below.refl _ _)
  have HD : Hid (Calls Tryz.prog 7 #[.agg #[.int .i64 0, .int .i64 16, .bool true, .slice b1 m1 d1, .slice b2 m2 d2]] W2 fun e w' => e = .returned (.tuple #[.int .i64 1, .int .i64 0]) ∧ Below W2.heap.size W2 w') := by
    have h := Digest_any (w := W2) (HG.out.1.below H2.out.2.1) (HG.out.2.below H2.out.2.1) exXe b1 m1 d1 b2 m2 d2 (below_sl H2.out.1 H1.out.2) ex7.2.2.1 (by decide)
    rw [ex5] at h
    exact h
  go_wp2_with fail
  refine HD.out.mono ?_
  rintro e w3 ⟨rfl, hb3⟩
  have H3 : Hid (Below W2.heap.size W2 w3 ∧ Below w1.heap.size w1 w3 ∧ Below w.heap.size w w3) := ⟨hb3, below_via H2.out.1 hb3 (Nat.le_refl _), below_via H2.out.2.1 hb3 (Nat.le_refl _)⟩
  clear hb3 x0 x1 x2 x3 x4 HD
  go_wp2_with fail
  refine (ROne_any (.slice (some ⟨w3.heap.size, 0, none⟩) 15 15) exY (Arr.sl (S := exY) (arr_nw rfl rfl)) ex7.2.1 (by decide)).mono ?_
  rintro e w4 ⟨ho, hb4⟩
  rw [ex2] at ho
  obtain ⟨b3, m3, d3, b4, m4, d4, rfl, hd, hr⟩ := ho
  have hb34 := below_via (al1 _) hb4 (Nat.le_refl _)
  have H4 : Hid (Below W2.heap.size W2 w4 ∧ Below w1.heap.size w1 w4 ∧ Below w.heap.size w w4 ∧ Sl .u8 w4 (.slice b3 m3 d3) exYe.d) := ⟨below_via H3.out.1 hb34 (Nat.le_refl _), below_via H3.out.2.1 hb34 (Nat.le_refl _), below_via H3.out.2.2 hb34 (Nat.le_refl _), hd.sl⟩
  clear hb4 hd hr hb34
  simp only [exYe]
  go_upto_region 4 with (fail)
  refine wp_gen (fun W => Blk 24 W w4.heap.size [.int .i64 0, .int .i64 16, .bool true, .slice b3 m3 d3, .slice b4 m4 d4] ∧ Below w4.heap.size w4 W) ⟨Blk.new _ w4 _, al1 _⟩ ?_
  rintro W5 ⟨hB, hBw⟩
  have H5 : Hid (Below W2.heap.size W2 W5 ∧ Below w1.heap.size w1 W5 ∧ Below w.heap.size w W5 ∧ Sl .u8 W5 (.slice b3 m3 d3) exYe.d) := ⟨below_via H4.out.1 hBw (Nat.le_refl _), below_via H4.out.2.1 hBw (Nat.le_refl _), below_via H4.out.2.2.1 hBw (Nat.le_refl _), below_sl hBw H4.out.2.2.2⟩
  have x0 : W5.cell? ⟨w4.heap.size, 0, none⟩ = some (.int .i64 0) := hB.cell 0
  have x1 : W5.cell? ⟨w4.heap.size, 1, none⟩ = some (.int .i64 16) := hB.cell 1
  have x2 : W5.cell? ⟨w4.heap.size, 2, none⟩ = some (.bool true) := hB.cell 2
  have x3 : W5.cell? ⟨w4.heap.size, 3, none⟩ = some (.slice b3 m3 d3) := hB.cell 3
  have x4 : W5.cell? ⟨w4.heap.size, 4, none⟩ = some (.slice b4 m4 d4) := hB.cell 4
  clear hB hBw
  have HS : Hid (Calls Tryz.prog 9 #[.agg #[.int .i64 0, .int .i64 16, .bool true, .slice b3 m3 d3, .slice b4 m4 d4]] W5 fun e w' => e = .returned (.tuple #[.agg #[.int .i64 1, .int .i64 2, .int .i64 0, .int .i64 0], .int .i64 0]) ∧ Below W5.heap.size W5 w') := by
    have h := Sign_any (w := W5) (HG.out.1.below H5.out.2.2.1) (HG.out.2.below H5.out.2.2.1) exYe b3 m3 d3 b4 m4 d4 H5.out.2.2.2 ex7.2.2.2 (by decide)
    rw [ex6.1, ex6.2.1, ex6.2.2.1, ex6.2.2.2.1, ex6.2.2.2.2] at h
    exact h
  go_wp2_with fail
  refine HS.out.mono ?_
  rintro e w6 ⟨rfl, hb6⟩
  have H6 : Hid (Below W2.heap.size W2 w6 ∧ Below w1.heap.size w1 w6 ∧ Below w.heap.size w w6) := ⟨below_via H5.out.1 hb6 (Nat.le_refl _), below_via H5.out.2.1 hb6 (Nat.le_refl _), below_via H5.out.2.2.1 hb6 (Nat.le_refl _)⟩
  clear hb6 x0 x1 x2 x3 x4 HS
  go_upto_region 5 with (fail)
  refine wp_gen (fun W => Blk 32 W w6.heap.size [.int .i64 1, .int .i64 2, .int .i64 0, .int .i64 0] ∧ Below w6.heap.size w6 W) ⟨Blk.new _ w6 _, al1 _⟩ ?_
  rintro W7 ⟨hB, hBw⟩
  have H7 : Hid (Below W2.heap.size W2 W7 ∧ Below w1.heap.size w1 W7 ∧ Below w.heap.size w W7 ∧ ∀ W, Below W7.heap.size W7 W → W.cell? ⟨w6.heap.size, 0, none⟩ = some (.int .i64 1) ∧ W.cell? ⟨w6.heap.size, 1, none⟩ = some (.int .i64 2) ∧ W.cell? ⟨w6.heap.size, 2, none⟩ = some (.int .i64 0) ∧ W.cell? ⟨w6.heap.size, 3, none⟩ = some (.int .i64 0)) := ⟨below_via H6.out.1 hBw (Nat.le_refl _), below_via H6.out.2.1 hBw (Nat.le_refl _), below_via H6.out.2.2 hBw (Nat.le_refl _), fun W h => by
    have q := below_blk h hB.lt hB
    exact ⟨q.cell 0, q.cell 1, q.cell 2, q.cell 3⟩⟩
  clear hB hBw
  obtain ⟨x0, x1, x2, x3, x4⟩ := H2.out.2.2 W7 H7.out.1
  have HK : Hid (Calls Tryz.prog 13 #[.agg #[.int .i64 0, .int .i64 16, .bool true, .slice b1 m1 d1, .slice b2 m2 d2]] W7 fun e w' => e = .returned (.tuple #[.agg keyZ.toArray, .int .i64 110]) ∧ Below W7.heap.size W7 w') :=
    Key_no (w := W7) (HG.out.1.below H7.out.2.2.1) (HG.out.2.below H7.out.2.2.1) exXe b1 m1 d1 b2 m2 d2 (below_sl H7.out.2.1 H1.out.2) ex7.2.2.1 (by decide) exA exB ex3 ex4
  go_wp2_with fail
  refine HK.out.mono ?_
  rintro e w8 ⟨rfl, hb8⟩
  have H8 : Hid (Below w.heap.size w w8 ∧ Below W7.heap.size W7 w8) := ⟨below_via H7.out.2.2.1 hb8 (Nat.le_refl _), hb8⟩
  clear hb8 x0 x1 x2 x3 x4 HK
  simp only [keyZ, List.toArray]
  go_upto_region 6 with (fail)
  refine wp_gen (fun W => Below w8.heap.size w8 W) (al1 _) ?_
  intro W9 hB9
  have H9 : Hid (Below w.heap.size w W9) := below_via H8.out.1 hB9 (Nat.le_refl _)
  obtain ⟨y0, y1, y2, y3⟩ := H7.out.2.2.2 W9 (below_via H8.out.2 hB9 (Nat.le_refl _))
  clear hB9
  go_wp2_with (go_at_call 11; refine (num11_any _).mono ?_; rintro e w' ⟨rfl, rfl⟩)
  go_ret
  exact ⟨rfl, H9.out⟩
end Go.Proofs.YtillkhjihggcjaaGreatDoor
/-
  Alg: the reference's row, Is, read, void.
-/
namespace Go.Proofs.YtillkhjihggcjaaGreatDoor
open Go.RowKit
set_option maxRecDepth 20000
theorem RIs_any {w : World} (x : El) (d r : Value) (t : Int) : Calls Tryz.prog 32 #[.agg #[.int .i64 x.cl, .int .i64 x.tg, .bool x.co, d, r], .int .i64 t] w fun e w' => e = .returned (.bool (isP x t)) ∧ Below w.heap.size w w' := by
  obtain ⟨cl, tg, co, xd, xr⟩ := x
  unfold isP
  simp only []
  by_cases h1 : cl = 0
  · by_cases h2 : tg = t
    · subst h1 h2
      cases co <;> (go_enter Tryz.func32, Tryz.ntmps32; go_wp2; go_ret; exact ⟨by simp, al1 _⟩)
    · have d2 : (tg == t) = false := by simpa using h2
      subst h1
      go_enter Tryz.func32, Tryz.ntmps32; go_wp2; go_ret; exact ⟨by simp [d2], al1 _⟩
  · have d1 : (cl == 0) = false := by simpa using h1
    go_enter Tryz.func32, Tryz.ntmps32; go_wp2; go_ret; exact ⟨by simp [d1], al1 _⟩
def RowAnsR (B : Nat) (w : World) (e : Ending) : Option (List El) → Prop
  | none => ∃ a n c, e = .returned (.tuple #[.slice a n c, .bool false])
  | some L => ∃ v, e = .returned (.tuple #[v, .bool true]) ∧ TlvR B w v L
set_option maxHeartbeats 1000000 in
theorem Rrow_any {w : World} (x : El) (a1 : Option Addr) (n1 c1 : Nat) (r : Value) (hD : Sl .u8 w (.slice a1 n1 c1) x.d) (uD : U8s x.d) (lD : x.d.length ≤ 6000) :
    Calls Tryz.prog 31 #[.agg #[.int .i64 x.cl, .int .i64 x.tg, .bool x.co, .slice a1 n1 c1, r]] w fun e w' => RowAnsR w.heap.size w' e (rowS x) ∧ Below w.heap.size w w' := by
  obtain ⟨cl, tg, co, D, R⟩ := x
  simp only [] at hD uD lD ⊢
  obtain ⟨O, hO⟩ : ∃ O, rowS ⟨cl, tg, co, D, R⟩ = O := ⟨_, rfl⟩
  rw [hO]
  by_cases hy : (cl == 0 && tg == 16 && co) = true
  · have HR : Hid (O = rowO (splitS D)) := by show _ = _; rw [← hO]; unfold rowS; rw [if_pos hy]
    obtain ⟨h1, h2, h3⟩ : cl = 0 ∧ tg = 16 ∧ co = true := by simp at hy; exact ⟨hy.1.1, hy.1.2, hy.2⟩
    subst h1 h2 h3
    have HS : Hid (∀ W, Below w.heap.size w W → Calls Tryz.prog 41 #[.slice a1 n1 c1] W fun e w' => (∃ v, e = .returned (.tuple #[v, .int .i64 (spE (splitS D)), .int .i64 (spA D.length (splitS D))]) ∧ TlvR W.heap.size w' v (spL (splitS D))) ∧ Below W.heap.size W w') := fun W h => (RSplit_any _ D (below_sl h hD) uD (by omega)).mono fun e w' ⟨ha, hb⟩ => ⟨ha.uni, hb⟩
    have HE : Hid (∀ er at', splitS D = .inl (er, at') → er ≠ 0) := fun er at' h => splitS_err uD h
    clear hD uD lD hy hO
    go_enter Tryz.func31, Tryz.ntmps31
    go_wp2_with fail
    refine (HS.out _ (al1 _)).mono ?_
    rintro e w1 ⟨⟨v, rfl, hv⟩, hb⟩
    obtain ⟨av, cv, hvv⟩ : ∃ a c, v = .slice a (spL (splitS D)).length c := by
      obtain ⟨Y, h1, h2, _⟩ := hv; obtain ⟨a, c, h3⟩ := h2.ne; rw [← h1, List.length_map]; exact ⟨a, c, h3⟩
    obtain ⟨nv, hnv⟩ : ∃ n, (spL (splitS D)).length = n := ⟨_, rfl⟩
    rw [hnv] at hvv
    subst hvv
    have H1 : Hid (Below w.heap.size w w1 ∧ TlvR w.heap.size w1 (.slice av nv cv) (spL (splitS D))) := ⟨below_via (al1 _) hb (Nat.le_refl _), hv.mono (by simp)⟩
    clear hv hb hnv
    cases hS : splitS D with
    | inl pq =>
      obtain ⟨er, at'⟩ := pq
      have h0 := HE.out er at' hS
      have h00 : (er == 0) = false := by simpa using h0
      have HO : Hid (O = none) := by show _ = _; rw [HR.out, hS]; rfl
      clear HS HE HR
      rw [show spE (.inl (er, at')) = er from rfl]
      obtain ⟨z, hz⟩ : ∃ z, (spA D.length (.inl (er, at')) : Nat) = z := ⟨_, rfl⟩
      rw [hz]
      clear hz hS
      go_wp2
      go_ret2
      rw [HO.out]
      exact ⟨⟨av, nv, cv, rfl⟩, H1.out.1⟩
    | inr L =>
      have H2 : Hid (Below w.heap.size w w1 ∧ TlvR w.heap.size w1 (.slice av nv cv) L) := ⟨H1.out.1, by have := H1.out.2; rw [hS] at this; exact this⟩
      have HO : Hid (O = some L) := by show _ = _; rw [HR.out, hS]; rfl
      clear HS HE HR H1
      rw [show spE (.inr L) = 0 from rfl]
      obtain ⟨z, hz⟩ : ∃ z, (spA D.length (.inr L) : Nat) = z := ⟨_, rfl⟩
      rw [hz]
      clear hz hS
      go_wp2
      go_ret2
      rw [HO.out]
      exact ⟨⟨_, rfl, H2.out.2⟩, H2.out.1⟩
  · obtain rfl : O = none := by rw [← hO]; unfold rowS; rw [if_neg hy]
    clear hD uD lD hO
    by_cases h1 : cl = 0
    · subst h1
      by_cases h2 : tg = 16
      · subst h2
        have h3 : co = false := by simpa using hy
        subst h3
        clear hy
        go_enter Tryz.func31, Tryz.ntmps31; go_wp2; go_ret2; exact ⟨⟨none, 0, 0, rfl⟩, al1 _⟩
      · have d2 : (tg != 16) = true := by simpa using h2
        clear hy
        go_enter Tryz.func31, Tryz.ntmps31; go_wp2; go_ret2; exact ⟨⟨none, 0, 0, rfl⟩, al1 _⟩
    · have d1 : (cl != 0) = true := by simpa using h1
      clear hy
      go_enter Tryz.func31, Tryz.ntmps31; go_wp2; go_ret2; exact ⟨⟨none, 0, 0, rfl⟩, al1 _⟩
theorem TlvS.len {w : World} {v : Value} {L : List El} (h : TlvS w v L) : ∃ a c, v = .slice a L.length c := by
  obtain ⟨a, c, _, h, _⟩ := h
  exact ⟨a, c, h⟩
def RdAns (w : World) (e : Ending) : Option (ByteArray × List El) → Prop
  | none => ∃ s a n c, e = .returned (.tuple #[.string s, .slice a n c, .bool false])
  | some (S, rest) => ∃ a n c, e = .returned (.tuple #[.string S, .slice a n c, .bool true]) ∧ rest.length = n ∧ TlvS w (.slice a n c) rest
set_option maxHeartbeats 4000000 in
theorem Rread_any {w : World} (x : El) (a1 : Option Addr) (n1 c1 : Nat) (a2 : Option Addr) (n2 c2 : Nat) (hD : Sl .u8 w (.slice a1 n1 c1) x.d) (uD : U8s x.d) (lD : x.d.length ≤ 6000) :
    Calls Tryz.prog 23 #[.agg #[.int .i64 x.cl, .int .i64 x.tg, .bool x.co, .slice a1 n1 c1, .slice a2 n2 c2]] w fun e w' => RdAns w' e (idS x) ∧ Below w.heap.size w w' := by
  have HR : Hid (∀ W, Below w.heap.size w W → Calls Tryz.prog 31 #[.agg #[.int .i64 x.cl, .int .i64 x.tg, .bool x.co, .slice a1 n1 c1, .slice a2 n2 c2]] W fun e w' => RowAnsR W.heap.size w' e (rowS x) ∧ Below W.heap.size W w') := fun W h => Rrow_any x a1 n1 c1 _ (below_sl h hD) uD lD
  obtain ⟨O, hO⟩ : ∃ O, idS x = O := ⟨_, rfl⟩
  obtain ⟨RO, hRO⟩ : ∃ R, rowS x = R := ⟨_, rfl⟩
  rw [hO]
  rw [hRO] at HR
  have HQ : Hid (O = idO RO) := by show _ = _; rw [← hO, ← hRO]; rfl
  have HL : Hid (∀ L, RO = some L → ∀ y ∈ L, y.d.length ≤ 6000 ∧ U8s y.d ∧ 0 ≤ y.tg) := fun L h => rowS_good uD lD (hRO.trans h)
  obtain ⟨cl, tg, co, D, R⟩ := x
  simp only [] at hD HR ⊢
  clear hD uD lD hO hRO
  go_enter Tryz.func23, Tryz.ntmps23
  go_wp2_with fail
  refine (HR.out _ (al1 _)).mono ?_
  rintro e w1 ⟨ha, hb⟩
  have H1 : Hid (Below w.heap.size w w1) := below_via (al1 _) hb (Nat.le_refl _)
  clear hb HR
  cases RO with
  | none =>
    obtain ⟨a, n, c, rfl⟩ := ha
    have HO : Hid (O = none) := HQ.out
    clear HQ HL
    go_wp2
    go_ret3
    rw [HO.out]
    exact ⟨⟨_, _, _, _, rfl⟩, H1.out⟩
  | some L =>
    obtain ⟨v, rfl, hv⟩ := ha
    have hv := hv.s
    obtain ⟨av, cv, rfl⟩ := hv.len
    rcases L with _ | ⟨y, rest⟩
    · have HO : Hid (O = none) := HQ.out
      clear HQ HL hv
      simp only [List.length_nil]
      go_wp2
      go_ret3
      rw [HO.out]
      exact ⟨⟨_, _, _, _, rfl⟩, H1.out⟩
    by_cases hr1 : rest.length ≤ 1
    · replace HQ : Hid (O = idC rest (oidO y)) := by
        show _ = _
        rw [HQ.out]
        rcases rest with _ | ⟨z, _ | ⟨z', rest⟩⟩
        · rfl
        · rfl
        · simp at hr1
      have hy := HL.out _ rfl y (by simp)
      obtain ⟨b, off, c, b1, m1, d1', b2, m2, d2', hvv, hc, hbl, e0, e1, e2, e3, e4, sd, sr, ht⟩ := hv.cons
      simp only [Value.slice.injEq] at hvv
      obtain ⟨rfl, hn, rfl⟩ := hvv
      obtain ⟨k, hk⟩ : ∃ k, rest.length = k := ⟨_, rfl⟩
      rw [hk] at hr1 ht hc hn
      rw [hn]
      have k1 : ¬ ((k + 1 : Nat) : Int) < 1 := by omega
      have k2 : ¬ (2 : Int) < ((k + 1 : Nat) : Int) := by omega
      have HP : Hid (∀ W : World, Calls Tryz.prog 32 #[.agg #[.int .i64 y.cl, .int .i64 y.tg, .bool y.co, .slice b1 m1 d1', .slice b2 m2 d2'], .int .i64 6] W fun e w' => e = .returned (.bool (isP y 6)) ∧ Below W.heap.size W w') := fun W => RIs_any y _ _ 6
      have HO : Hid (∀ W, Below w1.heap.size w1 W → Calls Tryz.prog 36 #[.slice b1 m1 d1'] W fun e w' => e = .returned (.tuple #[.string (strOfNums (oidF y.d).1), .int .i64 (oidF y.d).2]) ∧ Below W.heap.size W w') := fun W h => (ROid_any _ y.d (below_sl h sd) hy.2.1 hy.1).mono fun e w' ⟨⟨s, er, h1, h2⟩, hb⟩ => ⟨by obtain ⟨e1, e2⟩ := oidF_of h1; rw [h2, e1, e2], hb⟩
      have HK : Hid (rest.length = k ∧ b < w1.heap.size ∧ TlvS w1 (.slice (some ⟨b, off + 5, none⟩) k (cv - 1)) rest) := ⟨hk, hbl, ht⟩
      replace HQ : Hid (O = idC rest (if isP y 6 = true ∧ (oidF y.d).2 = 0 then some (strOfNums (oidF y.d).1) else none)) := HQ.out
      obtain ⟨ycl, ytg, yco, yD, yR⟩ := y
      simp only [] at HO HQ HP e0 e1 e2 e3 e4
      obtain ⟨p, hp⟩ : ∃ p, isP ⟨ycl, ytg, yco, yD, yR⟩ 6 = p := ⟨_, rfl⟩
      rw [hp] at HP HQ
      obtain ⟨S, hS⟩ : ∃ S, strOfNums (oidF yD).1 = S := ⟨_, rfl⟩
      obtain ⟨er, her⟩ : ∃ er, (oidF yD).2 = er := ⟨_, rfl⟩
      rw [hS, her] at HO HQ
      have kc : ((k + 1 : Nat) : Int) ≤ (cv : Int) := by omega
      clear hy hv hn hk ht sd sr HL hp hS her hc
      go_wp2_with fail
      refine (HP.out _).mono ?_
      rintro e w2 ⟨rfl, hb2⟩
      have H2 : Hid (Below w1.heap.size w1 w2 ∧ Below w.heap.size w w2) := ⟨hb2, below_via H1.out hb2 (Nat.le_refl _)⟩
      have g3 : w2.cell? ⟨b, off + 3, none⟩ = some (.slice b1 m1 d1') := (hb2.cell hbl).trans e3
      clear hb2 e0 e1 e2 e3 e4
      cases p with
      | false =>
        have HN : Hid (O = none) := by show _ = _; rw [HQ.out]; simp [idC]
        clear HQ HP HO
        go_wp2
        go_ret3
        rw [HN.out]
        exact ⟨⟨_, _, _, _, rfl⟩, H2.out.2⟩
      | true =>
        go_wp2_with fail
        refine (HO.out _ H2.out.1).mono ?_
        rintro e w3 ⟨rfl, hb3⟩
        have H3 : Hid (Below w.heap.size w w3 ∧ TlvS w3 (.slice (some ⟨b, off + 5, none⟩) k (cv - 1)) rest ∧ rest.length = k) := ⟨below_via H2.out.2 hb3 (Nat.le_refl _), (HK.out.2.2.below H2.out.1).below hb3, HK.out.1⟩
        clear hb3 g3 HP HO hbl HK
        by_cases h0 : er = 0
        · subst h0
          have HN : Hid (O = some (S, rest)) := by show _ = _; rw [HQ.out]; simp [idC]
          clear HQ
          by_cases hcv : cv = 1
          · subst hcv
            obtain rfl : k = 0 := by omega
            have hr0 : rest = [] := List.eq_nil_of_length_eq_zero H3.out.2.2
            go_upto_region 5 with (fail)
            go_region
            go_wp2
            go_ret3
            rw [HN.out]
            exact ⟨⟨_, _, _, rfl, H3.out.2.2, by rw [hr0]; exact TlvS.nil _ _ _⟩, below_drewN _ H3.out.1⟩
          · have hcz : ¬ cv - 1 = 0 := by omega
            go_upto_region 5 with (fail)
            go_region
            go_wp2
            go_ret3
            rw [HN.out]
            exact ⟨⟨_, _, _, rfl, H3.out.2.2, H3.out.2.1.below (Below.drew (Below.refl _ _))⟩, below_drewN _ H3.out.1⟩
        · have h00 : (er == 0) = false := by simpa using h0
          have HN : Hid (O = none) := by show _ = _; rw [HQ.out]; simp [idC, h0]
          clear HQ h0
          by_cases hcv : cv = 1
          · subst hcv
            obtain rfl : k = 0 := by omega
            go_upto_region 5 with (fail)
            go_region
            go_wp2
            go_ret3
            rw [HN.out]
            exact ⟨⟨_, _, _, _, rfl⟩, below_drewN _ H3.out.1⟩
          · have hcz : ¬ cv - 1 = 0 := by omega
            go_upto_region 5 with (fail)
            go_region
            go_wp2
            go_ret3
            rw [HN.out]
            exact ⟨⟨_, _, _, _, rfl⟩, below_drewN _ H3.out.1⟩
    · obtain ⟨k, hk⟩ : ∃ k, (y :: rest).length = k := ⟨_, rfl⟩
      have HO : Hid (O = none) := by
        show _ = _
        rw [HQ.out]
        rcases rest with _ | ⟨z, _ | ⟨z', rest⟩⟩
        · simp at hr1
        · simp at hr1
        · rfl
      rw [hk]
      have k1 : ¬ (k : Int) < 1 := by simp at hk; omega
      have k2 : (2 : Int) < (k : Int) := by simp at hk; omega
      clear HQ HL hv hk
      go_wp2
      go_ret3
      rw [HO.out]
      exact ⟨⟨_, _, _, _, rfl⟩, H1.out⟩
end Go.Proofs.YtillkhjihggcjaaGreatDoor
/-
  Alg: the reference's void, Digest.
-/
namespace Go.Proofs.YtillkhjihggcjaaGreatDoor
open Go.RowKit
set_option maxRecDepth 20000
theorem lbeq_comm (a b : List UInt8) : (a == b) = (b == a) := by
  rw [Bool.eq_iff_iff]; simp only [beq_iff_eq]; exact eq_comm
set_option maxHeartbeats 1000000 in
theorem Rvoid_any {w : World} (a : Option Addr) (n c : Nat) (rest : List El) (hn : rest.length = n) (hr : TlvS w (.slice a n c) rest) (hl : n ≤ 65536) :
    Calls Tryz.prog 24 #[.slice a n c] w fun e w' => e = .returned (.bool (vdB rest)) ∧ Below w.heap.size w w' := by
  rcases rest with _ | ⟨y, rest⟩
  · obtain rfl : n = 0 := hn.symm
    unfold vdB
    clear hr
    go_enter Tryz.func24, Tryz.ntmps24
    go_wp2
    go_ret
    exact ⟨rfl, Below.refl _ _⟩
  · obtain ⟨b, off, c', b1, m1, d1, b2, m2, d2, hvv, hc, hbl, e0, e1, e2, e3, e4, sd, sr, ht⟩ := hr.cons
    simp only [Value.slice.injEq] at hvv
    obtain ⟨rfl, hx1, rfl⟩ := hvv
    have n0 : ((n : Int) == 0) = false := by simp; omega
    have n1 : (0 : Int) < (n : Int) := by omega
    have HP : Hid (∀ W : World, Calls Tryz.prog 32 #[.agg #[.int .i64 y.cl, .int .i64 y.tg, .bool y.co, .slice b1 m1 d1, .slice b2 m2 d2], .int .i64 5] W fun e w' => e = .returned (.bool (isP y 5)) ∧ Below W.heap.size W w') := fun W => RIs_any y _ _ 5
    obtain ⟨ycl, ytg, yco, yD, yR⟩ := y
    simp only [] at HP e0 e1 e2 e3 e4
    have HV : Hid (vdB (⟨ycl, ytg, yco, yD, yR⟩ :: rest) = (isP ⟨ycl, ytg, yco, yD, yR⟩ 5 && ((m1 : Int) == 0))) := by
      obtain ⟨_, _, hv, _⟩ := sd
      simp only [Value.slice.injEq] at hv
      obtain ⟨_, rfl, _⟩ := hv
      show _ = _
      unfold vdB
      cases yD with
      | nil => simp
      | cons u l => simp; intro _; omega
    rw [HV.out]
    obtain ⟨p, hp⟩ : ∃ p, isP ⟨ycl, ytg, yco, yD, yR⟩ 5 = p := ⟨_, rfl⟩
    rw [hp] at HP ⊢
    have HC : Hid (∀ W, Below w.heap.size w W → W.cell? ⟨b, off + 3, none⟩ = some (.slice b1 m1 d1)) := fun W h => (h.cell hbl).trans e3
    clear hp HV sd sr ht hr hc hn hx1 hbl hl
    go_enter Tryz.func24, Tryz.ntmps24
    go_wp2_with fail
    refine (HP.out _).mono ?_
    rintro e w3 ⟨rfl, hb3⟩
    have H3 : Hid (Below w.heap.size w w3) := hb3
    have g3 := HC.out _ hb3
    clear hb3 e0 e1 e2 e3 e4 HC HP
    cases p with
    | false =>
      go_wp2
      go_ret
      exact ⟨rfl, H3.out⟩
    | true =>
      go_wp2
      go_ret
      exact ⟨by simp, H3.out⟩
theorem ROid_1 {w : World} : Calls Tryz.prog 25 #[.int .i64 1] w fun e w' => e = .returned (.string ⟨#[49, 46, 51, 46, 49, 52, 46, 51, 46, 50, 46, 50, 54]⟩) ∧ w = w' := by
  go_enter Tryz.func25, Tryz.ntmps25; go_wp2; go_ret; exact ⟨rfl, rfl⟩
theorem ROid_2 {w : World} : Calls Tryz.prog 25 #[.int .i64 2] w fun e w' => e = .returned (.string ⟨#[50, 46, 49, 54, 46, 56, 52, 48, 46, 49, 46, 49, 48, 49, 46, 51, 46, 52, 46, 50, 46, 49]⟩) ∧ w = w' := by
  go_enter Tryz.func25, Tryz.ntmps25; go_wp2; go_ret; exact ⟨rfl, rfl⟩
theorem ROid_3 {w : World} : Calls Tryz.prog 25 #[.int .i64 3] w fun e w' => e = .returned (.string ⟨#[50, 46, 49, 54, 46, 56, 52, 48, 46, 49, 46, 49, 48, 49, 46, 51, 46, 52, 46, 50, 46, 50]⟩) ∧ w = w' := by
  go_enter Tryz.func25, Tryz.ntmps25; go_wp2; go_ret; exact ⟨rfl, rfl⟩
theorem ROid_4 {w : World} : Calls Tryz.prog 25 #[.int .i64 4] w fun e w' => e = .returned (.string ⟨#[50, 46, 49, 54, 46, 56, 52, 48, 46, 49, 46, 49, 48, 49, 46, 51, 46, 52, 46, 50, 46, 51]⟩) ∧ w = w' := by
  go_enter Tryz.func25, Tryz.ntmps25; go_wp2; go_ret; exact ⟨rfl, rfl⟩
set_option maxHeartbeats 4000000 in
theorem RDigest_any {w : World} (x : El) (a1 : Option Addr) (n1 c1 : Nat) (a2 : Option Addr) (n2 c2 : Nat) (hD : Sl .u8 w (.slice a1 n1 c1) x.d) (uD : U8s x.d) (lD : x.d.length ≤ 6000) :
    Calls Tryz.prog 8 #[.agg #[.int .i64 x.cl, .int .i64 x.tg, .bool x.co, .slice a1 n1 c1, .slice a2 n2 c2]] w fun e w' => e = .returned (.tuple #[.int .i64 (digS x), .int .i64 (errD (digS x))]) ∧ Below w.heap.size w w' := by
  have HI : Hid (∀ W, Below w.heap.size w W → Calls Tryz.prog 23 #[.agg #[.int .i64 x.cl, .int .i64 x.tg, .bool x.co, .slice a1 n1 c1, .slice a2 n2 c2]] W fun e w' => RdAns w' e (idS x) ∧ Below W.heap.size W w') := fun W h => Rread_any x a1 n1 c1 a2 n2 c2 (below_sl h hD) uD lD
  obtain ⟨O, hO⟩ : ∃ O, digS x = O := ⟨_, rfl⟩
  obtain ⟨RO, hRO⟩ : ∃ R, idS x = R := ⟨_, rfl⟩
  rw [hO]
  have HQ : Hid (O = digO RO) := by show _ = _; rw [← hO, ← hRO]; rfl
  have HL : Hid (∀ S rest, RO = some (S, rest) → rest.length ≤ 1) := fun S rest h => (idS_good uD lD (hRO.trans h)).1
  rw [hRO] at HI
  obtain ⟨cl, tg, co, D, R⟩ := x
  simp only [] at hD HI ⊢
  clear hD uD lD hO hRO
  go_enter Tryz.func8, Tryz.ntmps8
  go_wp2_with fail
  refine (HI.out _ (al1 _)).mono ?_
  rintro e w1 ⟨ha, hb⟩
  have H1 : Hid (Below w.heap.size w w1) := below_via (al1 _) hb (Nat.le_refl _)
  clear hb HI
  cases RO with
  | none =>
    obtain ⟨s, a, n, c, rfl⟩ := ha
    have HO : Hid (O = 0) := HQ.out
    clear HQ HL
    go_wp2
    go_ret2
    rw [HO.out]
    exact ⟨rfl, H1.out⟩
  | some SR =>
    obtain ⟨S, rest⟩ := SR
    obtain ⟨a, n, c, rfl, hn, hr⟩ := ha
    have hl := HL.out S rest rfl
    have HO : Hid (O = if vdB rest = true then dgN S else 0) := HQ.out
    clear HQ HL
    obtain ⟨vb, hvb⟩ : ∃ v, vdB rest = v := ⟨_, rfl⟩
    have HW : Hid (Calls Tryz.prog 24 #[.slice a n c] w1 fun e w' => e = .returned (.bool vb) ∧ Below w1.heap.size w1 w') := by rw [← hvb]; exact Rvoid_any a n c rest hn hr (by omega)
    rw [hvb] at HO
    clear hr hn hl hvb
    go_wp2_with fail
    refine HW.out.mono ?_
    rintro e w3 ⟨rfl, hb3⟩
    have HB : Hid (Below w.heap.size w w3) := below_via H1.out hb3 (Nat.le_refl _)
    clear hb3 HW
    cases vb with
    | false =>
      have HD : Hid (O = 0) := HO.out
      clear HO
      go_wp2
      go_ret2
      rw [HD.out]
      exact ⟨rfl, HB.out⟩
    | true =>
      replace HO : Hid (O = dgN S) := HO.out
      cases h0 : (S.toList == [49, 46, 51, 46, 49, 52, 46, 51, 46, 50, 46, 50, 54]) with
      | true =>
        have HD : Hid (O = 1) := by show _ = _; rw [HO.out]; unfold dgN; simp [h0]
        clear HO
        have g0 := (lbeq_comm _ _).trans h0
        clear h0
        go_wp2_with fail
        refine wp_loop_rounds 1 ?_
        rw [rounds_succ]
        go_wp2_with (go_at_call 25; refine ROid_1.mono ?_; rintro e w9 ⟨rfl, rfl⟩)
        go_ret2
        rw [HD.out]
        exact ⟨rfl, HB.out⟩
      | false =>
        cases h1 : (S.toList == [50, 46, 49, 54, 46, 56, 52, 48, 46, 49, 46, 49, 48, 49, 46, 51, 46, 52, 46, 50, 46, 49]) with
        | true =>
          have HD : Hid (O = 2) := by show _ = _; rw [HO.out]; unfold dgN; simp [h0, h1]
          clear HO
          have g0 := (lbeq_comm _ _).trans h0
          have g1 := (lbeq_comm _ _).trans h1
          clear h0 h1
          go_wp2_with fail
          refine wp_loop_rounds 2 ?_
          rw [rounds_succ]
          go_wp2_with (go_at_call 25; refine ROid_1.mono ?_; rintro e w9 ⟨rfl, rfl⟩)
          rw [rounds_succ]
          go_wp2_with (go_at_call 25; refine ROid_2.mono ?_; rintro e w9 ⟨rfl, rfl⟩)
          go_ret2
          rw [HD.out]
          exact ⟨rfl, HB.out⟩
        | false =>
          cases h2 : (S.toList == [50, 46, 49, 54, 46, 56, 52, 48, 46, 49, 46, 49, 48, 49, 46, 51, 46, 52, 46, 50, 46, 50]) with
          | true =>
            have HD : Hid (O = 3) := by show _ = _; rw [HO.out]; unfold dgN; simp [h0, h1, h2]
            clear HO
            have g0 := (lbeq_comm _ _).trans h0
            have g1 := (lbeq_comm _ _).trans h1
            have g2 := (lbeq_comm _ _).trans h2
            clear h0 h1 h2
            go_wp2_with fail
            refine wp_loop_rounds 3 ?_
            rw [rounds_succ]
            go_wp2_with (go_at_call 25; refine ROid_1.mono ?_; rintro e w9 ⟨rfl, rfl⟩)
            rw [rounds_succ]
            go_wp2_with (go_at_call 25; refine ROid_2.mono ?_; rintro e w9 ⟨rfl, rfl⟩)
            rw [rounds_succ]
            go_wp2_with (go_at_call 25; refine ROid_3.mono ?_; rintro e w9 ⟨rfl, rfl⟩)
            go_ret2
            rw [HD.out]
            exact ⟨rfl, HB.out⟩
          | false =>
            cases h3 : (S.toList == [50, 46, 49, 54, 46, 56, 52, 48, 46, 49, 46, 49, 48, 49, 46, 51, 46, 52, 46, 50, 46, 51]) with
            | true =>
              have HD : Hid (O = 4) := by show _ = _; rw [HO.out]; unfold dgN; simp [h0, h1, h2, h3]
              clear HO
              have g0 := (lbeq_comm _ _).trans h0
              have g1 := (lbeq_comm _ _).trans h1
              have g2 := (lbeq_comm _ _).trans h2
              have g3 := (lbeq_comm _ _).trans h3
              clear h0 h1 h2 h3
              go_wp2_with fail
              refine wp_loop_rounds 4 ?_
              rw [rounds_succ]
              go_wp2_with (go_at_call 25; refine ROid_1.mono ?_; rintro e w9 ⟨rfl, rfl⟩)
              rw [rounds_succ]
              go_wp2_with (go_at_call 25; refine ROid_2.mono ?_; rintro e w9 ⟨rfl, rfl⟩)
              rw [rounds_succ]
              go_wp2_with (go_at_call 25; refine ROid_3.mono ?_; rintro e w9 ⟨rfl, rfl⟩)
              rw [rounds_succ]
              go_wp2_with (go_at_call 25; refine ROid_4.mono ?_; rintro e w9 ⟨rfl, rfl⟩)
              go_ret2
              rw [HD.out]
              exact ⟨rfl, HB.out⟩
            | false =>
              have HD : Hid (O = 0) := by show _ = _; rw [HO.out]; unfold dgN; simp [h0, h1, h2, h3]
              clear HO
              have g0 := (lbeq_comm _ _).trans h0
              have g1 := (lbeq_comm _ _).trans h1
              have g2 := (lbeq_comm _ _).trans h2
              have g3 := (lbeq_comm _ _).trans h3
              clear h0 h1 h2 h3
              go_wp2_with fail
              refine wp_loop_rounds 5 ?_
              rw [rounds_succ]
              go_wp2_with (go_at_call 25; refine ROid_1.mono ?_; rintro e w9 ⟨rfl, rfl⟩)
              rw [rounds_succ]
              go_wp2_with (go_at_call 25; refine ROid_2.mono ?_; rintro e w9 ⟨rfl, rfl⟩)
              rw [rounds_succ]
              go_wp2_with (go_at_call 25; refine ROid_3.mono ?_; rintro e w9 ⟨rfl, rfl⟩)
              rw [rounds_succ]
              go_wp2_with (go_at_call 25; refine ROid_4.mono ?_; rintro e w9 ⟨rfl, rfl⟩)
              rw [rounds_succ]
              go_wp2
              go_ret2
              rw [HD.out]
              exact ⟨rfl, HB.out⟩
end Go.Proofs.YtillkhjihggcjaaGreatDoor
/-
  Alg: the reference's one, pss.
-/
namespace Go.Proofs.YtillkhjihggcjaaGreatDoor
open Go.RowKit
set_option maxRecDepth 20000
def OneB (w : World) (e : Ending) (o : El × Int) : Prop :=
  ∃ a1 n1 c1 a2 n2 c2, e = .returned (.tuple #[.agg #[.int .i64 o.1.cl, .int .i64 o.1.tg, .bool o.1.co, .slice a1 n1 c1, .slice a2 n2 c2], .bool (o.2 == 0)]) ∧ Sl .u8 w (.slice a1 n1 c1) o.1.d ∧ Sl .u8 w (.slice a2 n2 c2) o.1.r
theorem five_nn {cl tg : Int} {co : Bool} {a1 a2 : Option Addr} {n1 c1 n2 c2 : Nat} : ∀ x ∈ [Value.int .i64 cl, .int .i64 tg, .bool co, .slice a1 n1 c1, .slice a2 n2 c2], ∀ m, x ≠ .int .u8 m := by
  intro x hx m h
  simp only [List.mem_cons, List.not_mem_nil, or_false] at hx
  rcases hx with rfl | rfl | rfl | rfl | rfl <;> cases h
set_option maxHeartbeats 2000000 in
theorem Rone_any {w : World} (x : El) (a1 : Option Addr) (n1 c1 : Nat) (a2 : Option Addr) (n2 c2 : Nat) (hD : Sl .u8 w (.slice a1 n1 c1) x.d) (uD : U8s x.d) (lD : x.d.length ≤ 6000) :
    Calls Tryz.prog 53 #[.agg #[.int .i64 x.cl, .int .i64 x.tg, .bool x.co, .slice a1 n1 c1, .slice a2 n2 c2]] w fun e w' => OneB w' e (oneS (splitS x.d)) ∧ Below w.heap.size w w' := by
  have HI : Hid (∀ W, Below w.heap.size w W → Calls Tryz.prog 18 #[.slice a1 n1 c1] W fun e w' => OneOutR W.heap.size w' e (oneS (splitS x.d)) ∧ Below W.heap.size W w') := fun W h => ROne_any _ x.d (below_sl h hD) uD (by omega)
  obtain ⟨⟨y, er⟩, hye⟩ : ∃ ye, oneS (splitS x.d) = ye := ⟨_, rfl⟩
  rw [hye] at HI ⊢
  obtain ⟨cl, tg, co, D, R⟩ := x
  obtain ⟨ycl, ytg, yco, yD, yR⟩ := y
  simp only [] at hD HI ⊢
  clear hD uD lD hye
  have HZ : Hid (∀ W, Below w.heap.size w W → Blk 24 W (w.heap.size + 1) [.int .i64 0, .int .i64 0, .bool false, .slice none 0 0, .slice none 0 0] → ∀ (d0 d1 : Option Addr) (e0 e1 f0 f1 : Nat), Sl .u8 W (.slice d0 e0 f0) yD → Sl .u8 W (.slice d1 e1 f1) yR → Blk 24 (((((W.setCell ⟨w.heap.size + 1, 0, none⟩ (.int .i64 ycl)).setCell ⟨w.heap.size + 1, 1, none⟩ (.int .i64 ytg)).setCell ⟨w.heap.size + 1, 2, none⟩ (.bool yco)).setCell ⟨w.heap.size + 1, 3, none⟩ (.slice d0 e0 f0)).setCell ⟨w.heap.size + 1, 4, none⟩ (.slice d1 e1 f1)) (w.heap.size + 1) [.int .i64 ycl, .int .i64 ytg, .bool yco, .slice d0 e0 f0, .slice d1 e1 f1] ∧ Sl .u8 (((((W.setCell ⟨w.heap.size + 1, 0, none⟩ (.int .i64 ycl)).setCell ⟨w.heap.size + 1, 1, none⟩ (.int .i64 ytg)).setCell ⟨w.heap.size + 1, 2, none⟩ (.bool yco)).setCell ⟨w.heap.size + 1, 3, none⟩ (.slice d0 e0 f0)).setCell ⟨w.heap.size + 1, 4, none⟩ (.slice d1 e1 f1)) (.slice d0 e0 f0) yD ∧ Sl .u8 (((((W.setCell ⟨w.heap.size + 1, 0, none⟩ (.int .i64 ycl)).setCell ⟨w.heap.size + 1, 1, none⟩ (.int .i64 ytg)).setCell ⟨w.heap.size + 1, 2, none⟩ (.bool yco)).setCell ⟨w.heap.size + 1, 3, none⟩ (.slice d0 e0 f0)).setCell ⟨w.heap.size + 1, 4, none⟩ (.slice d1 e1 f1)) (.slice d1 e1 f1) yR ∧ Below w.heap.size w (((((W.setCell ⟨w.heap.size + 1, 0, none⟩ (.int .i64 ycl)).setCell ⟨w.heap.size + 1, 1, none⟩ (.int .i64 ytg)).setCell ⟨w.heap.size + 1, 2, none⟩ (.bool yco)).setCell ⟨w.heap.size + 1, 3, none⟩ (.slice d0 e0 f0)).setCell ⟨w.heap.size + 1, 4, none⟩ (.slice d1 e1 f1))) := by
    intro W hW hB d0 d1 e0 e1 f0 f1 s0 s1
    have hU := ((((Upd.set W (w.heap.size + 1) 0 (.int .i64 ycl)).trans (Upd.set _ _ 1 (.int .i64 ytg))).trans (Upd.set _ _ 2 (.bool yco))).trans (Upd.set _ _ 3 (.slice d0 e0 f0))).trans (Upd.set _ _ 4 (.slice d1 e1 f1))
    exact ⟨((((hB.set 0 (.int .i64 ycl)).set 1 (.int .i64 ytg)).set 2 (.bool yco)).set 3 (.slice d0 e0 f0)).set 4 (.slice d1 e1 f1), sl_upA s0 hB five_nn hU, sl_upA s1 hB five_nn hU, hU.below hW hW.size (by omega)⟩
  go_enter Tryz.func53, Tryz.ntmps53
  go_wp2_with fail
  refine (HI.out _ (below_via (al1 _) (al1 _) (Nat.le_refl _))).mono ?_
  rintro e w1 ⟨⟨b1, m1, d1, b2, m2, d2, rfl, hd, hr⟩, hb⟩
  have H1 : Hid (Below w.heap.size w w1 ∧ Blk 24 w1 (w.heap.size + 1) [.int .i64 0, .int .i64 0, .bool false, .slice none 0 0, .slice none 0 0] ∧ Sl .u8 w1 (.slice b1 m1 d1) yD ∧ Sl .u8 w1 (.slice b2 m2 d2) yR) := ⟨below_via (below_via (al1 _) (al1 _) (Nat.le_refl _)) hb (Nat.le_refl _), below_blk hb (by simp) (by
    have := Blk.new 24 (w.alloc (.cells #[.int .i64 cl, .int .i64 tg, .bool co, .slice a1 n1 c1, .slice a2 n2 c2] 24)) [.int .i64 0, .int .i64 0, .bool false, .slice none 0 0, .slice none 0 0]
    rw [World.size_alloc] at this
    exact this), hd.sl, hr.sl⟩
  clear hb HI hd hr
  simp only []
  go_upto_region 2 with (fail)
  refine wp_gen (fun W => Blk 24 W w1.heap.size [.int .i64 ycl, .int .i64 ytg, .bool yco, .slice b1 m1 d1, .slice b2 m2 d2] ∧ Below w1.heap.size w1 W) ⟨Blk.new _ w1 _, al1 _⟩ ?_
  rintro W2 ⟨hB, hBw⟩
  have H2 : Hid (Below w.heap.size w W2 ∧ Blk 24 W2 (w.heap.size + 1) [.int .i64 0, .int .i64 0, .bool false, .slice none 0 0, .slice none 0 0] ∧ Sl .u8 W2 (.slice b1 m1 d1) yD ∧ Sl .u8 W2 (.slice b2 m2 d2) yR) := ⟨below_via H1.out.1 hBw (Nat.le_refl _), below_blk hBw H1.out.2.1.lt H1.out.2.1, below_sl hBw H1.out.2.2.1, below_sl hBw H1.out.2.2.2⟩
  have i0 : W2.cell? ⟨w1.heap.size, 0, none⟩ = some (.int .i64 ycl) := hB.cell 0
  have i1 : W2.cell? ⟨w1.heap.size, 1, none⟩ = some (.int .i64 ytg) := hB.cell 1
  have i2 : W2.cell? ⟨w1.heap.size, 2, none⟩ = some (.bool yco) := hB.cell 2
  have i3 : W2.cell? ⟨w1.heap.size, 3, none⟩ = some (.slice b1 m1 d1) := hB.cell 3
  have i4 : W2.cell? ⟨w1.heap.size, 4, none⟩ = some (.slice b2 m2 d2) := hB.cell 4
  have z0 : W2.cell? ⟨w.heap.size + 1, 0, none⟩ = some (.int .i64 0) := H2.out.2.1.cell 0
  have z1 : W2.cell? ⟨w.heap.size + 1, 1, none⟩ = some (.int .i64 0) := H2.out.2.1.cell 1
  have z2 : W2.cell? ⟨w.heap.size + 1, 2, none⟩ = some (.bool false) := H2.out.2.1.cell 2
  have z3 : W2.cell? ⟨w.heap.size + 1, 3, none⟩ = some (.slice none 0 0) := H2.out.2.1.cell 3
  have z4 : W2.cell? ⟨w.heap.size + 1, 4, none⟩ = some (.slice none 0 0) := H2.out.2.1.cell 4
  have f0 := H2.out.2.1.frozen 0
  have f1 := H2.out.2.1.frozen 1
  have f2 := H2.out.2.1.frozen 2
  have f3 := H2.out.2.1.frozen 3
  have f4 := H2.out.2.1.frozen 4
  clear hB hBw
  go_wp2
  have hz := HZ.out W2 H2.out.1 H2.out.2.1 b1 b2 m1 m2 d1 d2 H2.out.2.2.1 H2.out.2.2.2
  exact bodyPost_ret (results_blk2 rfl rfl hz.1 Tryz.underlying24 rfl Tryz.sizeT rfl) rfl ⟨⟨b1, m1, d1, b2, m2, d2, rfl, hz.2.1, hz.2.2.1⟩, hz.2.2.2⟩
def PsB (e : Ending) : Option Al → Prop
  | none => e = .returned (.tuple #[.agg #[.int .i64 0, .int .i64 0, .int .i64 0, .int .i64 0], .bool false])
  | some a => e = .returned (.tuple #[.agg #[.int .i64 a.k, .int .i64 a.d, .int .i64 a.m, .int .i64 a.s], .bool true])
/-- What stands while the parts of the second way are read. -/
def PS (w W : World) (A : Al) (l : Value) (L : List El) : Prop :=
  Below w.heap.size w W ∧ Blk 32 W (w.heap.size + 1) [.int .i64 0, .int .i64 0, .int .i64 0, .int .i64 0] ∧ Blk 32 W (w.heap.size + 1 + 1) (alC A) ∧ TlvS W l L ∧ ∀ b off n c, l = .slice (some ⟨b, off, none⟩) n c → w.heap.size + 3 ≤ b
theorem PS.below {w W W' : World} {A : Al} {l : Value} {L : List El} (h : PS w W A l L) (hb : Below W.heap.size W W') : PS w W' A l L :=
  ⟨below_via h.1 hb (Nat.le_refl _), below_blk hb h.2.1.lt h.2.1, below_blk hb h.2.2.1.lt h.2.2.1, h.2.2.2.1.below hb, h.2.2.2.2⟩
theorem PS.put {w W : World} {A A' : Al} {l : Value} {L : List El} (h : PS w W A l L) (i : Nat) (n : Int) (hs : (alC A).set i (.int .i64 n) = alC A') : PS w (W.setCell ⟨w.heap.size + 1 + 1, i, none⟩ (.int .i64 n)) A' l L := by
  have hU := Upd.set W (w.heap.size + 1 + 1) i (.int .i64 n)
  refine ⟨hU.below h.1 h.1.size (by omega), hU.blk h.2.1 (by omega), ?_, h.2.2.2.1.upd h.2.2.1 hU (fun b o n c hv => by have := h.2.2.2.2 b o n c hv; omega) alC_nn, h.2.2.2.2⟩
  rw [← hs]
  exact h.2.2.1.set i _
theorem PS.cels {w W : World} {A : Al} {l : Value} {L : List El} (h : PS w W A l L) : (W.cell? ⟨w.heap.size + 1, 0, none⟩ = some (.int .i64 0) ∧ W.cell? ⟨w.heap.size + 1, 1, none⟩ = some (.int .i64 0) ∧ W.cell? ⟨w.heap.size + 1, 2, none⟩ = some (.int .i64 0) ∧ W.cell? ⟨w.heap.size + 1, 3, none⟩ = some (.int .i64 0)) ∧ W.frozen? ⟨w.heap.size + 1, 0, none⟩ = false ∧ W.frozen? ⟨w.heap.size + 1, 1, none⟩ = false ∧ W.frozen? ⟨w.heap.size + 1, 2, none⟩ = false ∧ W.frozen? ⟨w.heap.size + 1, 3, none⟩ = false :=
  ⟨⟨h.2.1.cell 0, h.2.1.cell 1, h.2.1.cell 2, h.2.1.cell 3⟩, h.2.1.frozen 0, h.2.1.frozen 1, h.2.1.frozen 2, h.2.1.frozen 3⟩
theorem PS.end {w W : World} {A : Al} {l : Value} {L : List El} (h : PS w W A l L) (a b c d : Int) : Blk 32 ((((W.setCell ⟨w.heap.size + 1, 0, none⟩ (.int .i64 a)).setCell ⟨w.heap.size + 1, 1, none⟩ (.int .i64 b)).setCell ⟨w.heap.size + 1, 2, none⟩ (.int .i64 c)).setCell ⟨w.heap.size + 1, 3, none⟩ (.int .i64 d)) (w.heap.size + 1) [.int .i64 a, .int .i64 b, .int .i64 c, .int .i64 d] ∧ Below w.heap.size w ((((W.setCell ⟨w.heap.size + 1, 0, none⟩ (.int .i64 a)).setCell ⟨w.heap.size + 1, 1, none⟩ (.int .i64 b)).setCell ⟨w.heap.size + 1, 2, none⟩ (.int .i64 c)).setCell ⟨w.heap.size + 1, 3, none⟩ (.int .i64 d)) :=
  ⟨(((h.2.1.set 0 (.int .i64 a)).set 1 (.int .i64 b)).set 2 (.int .i64 c)).set 3 (.int .i64 d), ((((Upd.set W (w.heap.size + 1) 0 (.int .i64 a)).trans (Upd.set _ _ 1 (.int .i64 b))).trans (Upd.set _ _ 2 (.int .i64 c))).trans (Upd.set _ _ 3 (.int .i64 d))).below h.1 h.1.size (by omega)⟩
end Go.Proofs.YtillkhjihggcjaaGreatDoor
