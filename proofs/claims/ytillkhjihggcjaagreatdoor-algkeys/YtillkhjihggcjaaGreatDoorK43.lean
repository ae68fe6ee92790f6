/-
  Alg: readBytes, readNumber, curveNamed.
-/
import Derived.Test.YtillkhjihggcjaaGreatDoorK42
namespace Go.Proofs.YtillkhjihggcjaaGreatDoor
open Go.RowKit
set_option maxRecDepth 20000
theorem Sl.nilA (k : IntKind) (w : World) : Sl k w (.slice none 0 0) [] := ⟨none, 0, rfl, Nat.le_refl _, .inl rfl⟩
theorem Sl.formK {k : IntKind} {w : World} {v : Value} {xs : List Int} (h : Sl k w v xs) : ∃ a c, v = .slice a xs.length c := by obtain ⟨a, c, h, _⟩ := h; exact ⟨a, c, h⟩
def BytAns (w : World) (e : Ending) : Option (List Int) → Prop
  | none => ∃ a n c, e = .returned (.tuple #[.slice a n c, .bool false])
  | some B => ∃ a n c, e = .returned (.tuple #[.slice a n c, .bool true]) ∧ Sl .u8 w (.slice a n c) B
theorem BitsAns.uni {B : Nat} {w : World} {X : List Int} {e : Ending} (h : BitsAns B w X e) : ∃ a n c s er, e = .returned (.tuple #[.slice a n c, .int .i64 s, .int .i64 er]) ∧ ((bitsOk X = true ∧ er = 0 ∧ s = X.getD 0 0 ∧ Sl .u8 w (.slice a n c) (X.drop 1)) ∨ (bitsOk X = false ∧ er = 6)) := by
  rcases h with ⟨h, r, rfl, hr⟩ | ⟨h, rfl⟩
  · obtain ⟨a, c, rfl⟩ := hr.ne
    exact ⟨a, _, c, _, _, rfl, .inl ⟨h, rfl, rfl, hr.sl⟩⟩
  · exact ⟨none, 0, 0, _, _, rfl, .inr ⟨h, rfl⟩⟩
set_option maxHeartbeats 2000000 in
theorem readBytes_any {w : World} (x : El) (a1 : Option Addr) (n1 c1 : Nat) (a2 : Option Addr) (n2 c2 : Nat) (hD : Sl .u8 w (.slice a1 n1 c1) x.d) (uD : U8s x.d) (lD : x.d.length ≤ 6000) :
    Calls Tryz.prog 56 #[.agg #[.int .i64 x.cl, .int .i64 x.tg, .bool x.co, .slice a1 n1 c1, .slice a2 n2 c2]] w fun e w' => BytAns w' e (bytO x) ∧ Below w.heap.size w w' := by
  have HP : Hid (∀ W : World, Calls Tryz.prog 71 #[.agg #[.int .i64 x.cl, .int .i64 x.tg, .bool x.co, .slice a1 n1 c1, .slice a2 n2 c2], .int .i64 3] W fun e w' => e = .returned (.bool (isP x 3)) ∧ Below W.heap.size W w') := fun W => isPlain_any x _ _ 3
  have HB : Hid (∀ W, Below w.heap.size w W → Calls Tryz.prog 76 #[.slice a1 n1 c1] W fun e w' => BitsAns W.heap.size w' x.d e ∧ Below W.heap.size W w') := fun W h => Bits_any _ x.d (below_sl h hD) uD (by omega)
  obtain ⟨O, hO⟩ : ∃ O, bytO x = O := ⟨_, rfl⟩
  rw [hO]
  have HQ : Hid (O = if isP x 3 = true ∧ bitsOk x.d = true ∧ x.d.getD 0 0 = 0 then some (x.d.drop 1) else none) := by show _ = _; rw [← hO]; rfl
  obtain ⟨cl, tg, co, D, R⟩ := x
  simp only [] at hD uD lD HP HB HQ ⊢
  obtain ⟨b, hb⟩ : ∃ b, isP ⟨cl, tg, co, D, R⟩ 3 = b := ⟨_, rfl⟩
  rw [hb] at HP HQ
  clear hD uD lD hO hb
  go_enter Tryz.func56, Tryz.ntmps56
  go_wp2_with fail
  refine (HP.out _).mono ?_
  rintro e w1 ⟨rfl, hb1⟩
  have H1 : Hid (Below w.heap.size w w1) := below_via (al1 _) hb1 (Nat.le_refl _)
  have q3 : w1.cell? ⟨w.heap.size, 3, none⟩ = some (.slice a1 n1 c1) := (below_blk hb1 (by simp) (Blk.new 24 w [.int .i64 cl, .int .i64 tg, .bool co, .slice a1 n1 c1, .slice a2 n2 c2])).cell 3
  clear hb1
  cases b with
  | false =>
    have HN : Hid (O = none) := by show _ = _; rw [HQ.out]; simp
    clear HQ HP HB q3
    go_wp2
    go_ret2
    rw [HN.out]
    exact ⟨⟨_, _, _, rfl⟩, H1.out⟩
  | true =>
    go_wp2_with fail
    refine (HB.out _ H1.out).mono ?_
    rintro e w2 ⟨ha, hb2⟩
    obtain ⟨ra, rn, rc, s, er, rfl, hc⟩ := ha.uni
    have H2 : Hid (Below w.heap.size w w2) := below_via H1.out hb2 (Nat.le_refl _)
    clear hb2 q3 HP HB ha
    rcases hc with ⟨h1, rfl, hs, hsl⟩ | ⟨h1, rfl⟩
    · have HS : Hid (Sl .u8 w2 (.slice ra rn rc) (D.drop 1)) := hsl
      by_cases h0 : s = 0
      · have HN : Hid (O = some (D.drop 1)) := by show _ = _; rw [HQ.out, if_pos]; exact ⟨by trivial, h1, by rw [← hs]; exact h0⟩
        subst h0
        clear HQ h1 hs hsl
        go_wp2
        go_ret2
        rw [HN.out]
        exact ⟨⟨_, _, _, rfl, HS.out⟩, H2.out⟩
      · have HN : Hid (O = none) := by show _ = _; rw [HQ.out, if_neg]; rintro ⟨_, _, h⟩; exact h0 (by rw [hs]; exact h)
        have h00 : (s == 0) = false := by simpa using h0
        clear HQ h1 hs hsl h0
        go_wp2
        go_ret2
        rw [HN.out]
        exact ⟨⟨_, _, _, rfl⟩, H2.out⟩
    · have HN : Hid (O = none) := by show _ = _; rw [HQ.out, if_neg]; rintro ⟨_, h, _⟩; rw [h1] at h; cases h
      clear HQ h1
      go_wp2
      go_ret2
      rw [HN.out]
      exact ⟨⟨_, _, _, rfl⟩, H2.out⟩
def NumAns (w : World) (e : Ending) (x : El) : Prop := ∃ a n c, e = .returned (.tuple #[.slice a n c, .bool (numO x).isSome]) ∧ Sl .u32 w (.slice a n c) ((numO x).getD (if isP x 2 = true then (uintS x.d).1 else []))
set_option maxHeartbeats 2000000 in
theorem readNumber_any {w : World} (x : El) (a1 : Option Addr) (n1 c1 : Nat) (a2 : Option Addr) (n2 c2 : Nat) (hD : Sl .u8 w (.slice a1 n1 c1) x.d) (uD : U8s x.d) (lD : x.d.length ≤ 6000) :
    Calls Tryz.prog 79 #[.agg #[.int .i64 x.cl, .int .i64 x.tg, .bool x.co, .slice a1 n1 c1, .slice a2 n2 c2]] w fun e w' => NumAns w' e x ∧ Below w.heap.size w w' := by
  have HP : Hid (∀ W : World, Calls Tryz.prog 71 #[.agg #[.int .i64 x.cl, .int .i64 x.tg, .bool x.co, .slice a1 n1 c1, .slice a2 n2 c2], .int .i64 2] W fun e w' => e = .returned (.bool (isP x 2)) ∧ Below W.heap.size W w') := fun W => isPlain_any x _ _ 2
  have HB : Hid (∀ W, Below w.heap.size w W → Calls Tryz.prog 99 #[.slice a1 n1 c1] W fun e w' => UAns x.d W w' e) := fun W h => Uint_any _ x.d (below_sl h hD) uD (by omega)
  have HQ : Hid (numO x = if isP x 2 = true ∧ (uintS x.d).2 = 0 then some (uintS x.d).1 else none) := rfl
  unfold NumAns
  obtain ⟨O, hO⟩ : ∃ O, numO x = O := ⟨_, rfl⟩
  rw [hO] at HQ ⊢
  obtain ⟨b, hb⟩ : ∃ b, isP x 2 = b := ⟨_, rfl⟩
  rw [hb] at HP HQ ⊢
  obtain ⟨cl, tg, co, D, R⟩ := x
  simp only [] at hD uD lD HP HB HQ ⊢
  clear hD uD lD hO hb
  go_enter Tryz.func79, Tryz.ntmps79
  go_wp2_with fail
  refine (HP.out _).mono ?_
  rintro e w1 ⟨rfl, hb1⟩
  have H1 : Hid (Below w.heap.size w w1) := below_via (al1 _) hb1 (Nat.le_refl _)
  have q3 : w1.cell? ⟨w.heap.size, 3, none⟩ = some (.slice a1 n1 c1) := (below_blk hb1 (by simp) (Blk.new 24 w [.int .i64 cl, .int .i64 tg, .bool co, .slice a1 n1 c1, .slice a2 n2 c2])).cell 3
  clear hb1
  cases b with
  | false =>
    have HN : Hid (O = none) := by show _ = _; rw [HQ.out]; simp
    clear HQ HP HB q3
    go_wp2
    go_ret2
    rw [HN.out]
    exact ⟨⟨_, _, _, rfl, Sl.nilA _ _⟩, H1.out⟩
  | true =>
    go_wp2_with fail
    refine (HB.out _ H1.out).mono ?_
    rintro e w2 ⟨⟨r, rfl, hr⟩, hb2⟩
    obtain ⟨ra, rc, hrr⟩ := hr.formK
    obtain ⟨rn, hrn⟩ : ∃ k, (uintS D).1.length = k := ⟨_, rfl⟩
    rw [hrn] at hrr
    subst hrr
    have H2 : Hid (Below w.heap.size w w2 ∧ Sl .u32 w2 (.slice ra rn rc) (uintS D).1) := ⟨below_via H1.out hb2 (Nat.le_refl _), hr⟩
    obtain ⟨er, her⟩ : ∃ er, (uintS D).2 = er := ⟨_, rfl⟩
    rw [her] at HQ ⊢
    clear hb2 q3 HP HB hr hrn her
    by_cases h0 : er = 0
    · subst h0
      have HN : Hid (O = some (uintS D).1) := by show _ = _; rw [HQ.out]; simp
      clear HQ
      go_wp2
      go_ret2
      rw [HN.out]
      exact ⟨⟨_, _, _, rfl, H2.out.2⟩, H2.out.1⟩
    · have HN : Hid (O = none) := by show _ = _; rw [HQ.out]; simp [h0]
      have h00 : (er == 0) = false := by simpa using h0
      clear HQ h0
      go_wp2
      go_ret2
      rw [HN.out]
      exact ⟨⟨_, _, _, rfl, by simpa using H2.out.2⟩, H2.out.1⟩
set_option maxHeartbeats 2000000 in
theorem curveNamed_any {w : World} (hT : P10 w) (a : Option Addr) (n c : Nat) (rest : List El) (hn : rest.length = n) (h1 : n ≤ 1) (hr : TlvS w (.slice a n c) rest) (hg : ∀ y ∈ rest, y.d.length ≤ 6000 ∧ U8s y.d ∧ 0 ≤ y.tg) :
    Calls Tryz.prog 58 #[.slice a n c] w fun e w' => e = .returned (.int .i64 (crvO rest)) ∧ Below w.heap.size w w' := by
  rcases rest with _ | ⟨y, _ | ⟨z, rest⟩⟩
  · obtain rfl : n = 0 := hn.symm
    have HO : Hid (crvO [] = 0) := rfl
    rw [HO.out]
    clear hr hg hT
    go_enter Tryz.func58, Tryz.ntmps58
    go_wp2
    go_ret
    exact ⟨rfl, Below.refl _ _⟩
  · obtain rfl : n = 1 := hn.symm
    obtain ⟨b, off, c', b1, m1, d1, b2, m2, d2, hvv, hc, hbl, e0, e1, e2, e3, e4, sd, sr, ht⟩ := hr.cons
    simp only [Value.slice.injEq] at hvv
    obtain ⟨rfl, hx1, rfl⟩ := hvv
    have hy := hg y (by simp)
    have HC : Hid (Calls Tryz.prog 70 #[.agg #[.int .i64 y.cl, .int .i64 y.tg, .bool y.co, .slice b1 m1 d1, .slice b2 m2 d2]] w fun e w' => OidAns e (oidO y) ∧ Below w.heap.size w w') := readOid_any y b1 m1 d1 b2 m2 d2 sd hy.2.1 hy.1 hT
    obtain ⟨K, hK⟩ : ∃ K, crvO [y] = K := ⟨_, rfl⟩
    rw [hK]
    have HK : Hid (K = crvN1 (oidO y)) := by show _ = _; rw [← hK]; rfl
    obtain ⟨OO, hOO⟩ : ∃ O, oidO y = O := ⟨_, rfl⟩
    rw [hOO] at HC HK
    obtain ⟨ycl, ytg, yco, yD, yR⟩ := y
    simp only [] at HC e0 e1 e2 e3 e4
    clear hr hg hT hx1 hc hbl sd sr ht hy hK hOO hn
    go_enter Tryz.func58, Tryz.ntmps58
    go_wp2_with fail
    refine HC.out.mono ?_
    rintro e w1 ⟨ho, hb1⟩
    have H1 : Hid (Below w.heap.size w w1) := hb1
    clear hb1 e0 e1 e2 e3 e4 HC
    cases OO with
    | none =>
      obtain ⟨s, rfl⟩ := ho
      have HV : Hid (K = 0) := HK.out
      clear HK
      go_wp2
      go_ret
      rw [HV.out]
      exact ⟨rfl, H1.out⟩
    | some S =>
      obtain rfl : e = _ := ho
      cases g1 : (S.toList == [49, 46, 50, 46, 56, 52, 48, 46, 49, 48, 48, 52, 53, 46, 51, 46, 49, 46, 55]) with
      | true =>
        have HV : Hid (K = 1) := by show _ = _; rw [HK.out]; simp [crvN1, g1]
        clear HK
        go_wp2
        go_ret
        rw [HV.out]
        exact ⟨rfl, H1.out⟩
      | false =>
        cases g2 : (S.toList == [49, 46, 51, 46, 49, 51, 50, 46, 48, 46, 51, 52]) with
        | true =>
          have HV : Hid (K = 2) := by show _ = _; rw [HK.out]; simp [crvN1, g1, g2]
          clear HK
          go_wp2
          go_ret
          rw [HV.out]
          exact ⟨rfl, H1.out⟩
        | false =>
          have HV : Hid (K = 0) := by show _ = _; rw [HK.out]; simp [crvN1, g1, g2]
          clear HK
          go_wp2
          go_ret
          rw [HV.out]
          exact ⟨rfl, H1.out⟩
  · simp at hn; omega
end Go.Proofs.YtillkhjihggcjaaGreatDoor
/-
  Alg: readRsa, readPoint.
-/
namespace Go.Proofs.YtillkhjihggcjaaGreatDoor
open Go.RowKit
set_option maxRecDepth 20000
/-- A key's five values. -/
def KyV (w : World) (k : Ky) (v1 v2 v3 v4 : Value) : Prop := Sl .u32 w v1 k.n ∧ Sl .u32 w v2 k.e ∧ Nb w v3 k.x ∧ Nb w v4 k.y
def FlK (an ak : Addr) (er : Int) (f : Value) : Prop := (er = 0 ∧ f = .nilIface) ∨ (er = 80 ∧ ∃ s, f = flV ak s) ∨ (er = 110 ∧ ∃ s, f = flV an s)
def KeyAns (an ak : Addr) (w : World) (e : Ending) (r : Ky × Int) : Prop :=
  ∃ v1 v2 v3 v4 f, e = .returned (.tuple #[.agg #[.int .i64 r.1.cv, v1, v2, v3, v4], f]) ∧ KyV w r.1 v1 v2 v3 v4 ∧ FlK an ak r.2 f
theorem KyV.zero (w : World) : KyV w ky0 (.slice none 0 0) (.slice none 0 0) (.slice none 0 0) (.slice none 0 0) := ⟨Sl.nilA _ _, Sl.nilA _ _, nil_nb _, nil_nb _⟩
theorem KyV.below {w w' : World} {k : Ky} {v1 v2 v3 v4 : Value} (h : KyV w k v1 v2 v3 v4) (hb : Below w.heap.size w w') : KyV w' k v1 v2 v3 v4 := ⟨below_sl hb h.1, below_sl hb h.2.1, h.2.2.1.below hb, h.2.2.2.below hb⟩
theorem key_nn {k : Int} {v1 v2 v3 v4 : Value} (h1 : ∀ k' m, v1 ≠ .int k' m) (h2 : ∀ k' m, v2 ≠ .int k' m) (h3 : ∀ k' m, v3 ≠ .int k' m) (h4 : ∀ k' m, v4 ≠ .int k' m) : ∀ x ∈ [Value.int .i64 k, v1, v2, v3, v4], ∀ m, x ≠ .int .u32 m := by
  intro x hx m h
  simp only [List.mem_cons, List.not_mem_nil, or_false] at hx
  rcases hx with rfl | rfl | rfl | rfl | rfl
  · cases h
  · exact h1 _ _ h
  · exact h2 _ _ h
  · exact h3 _ _ h
  · exact h4 _ _ h
theorem keyZ_nn : ∀ x ∈ keyZ, ∀ m, x ≠ .int .u32 m := key_nn (fun _ _ h => by cases h) (fun _ _ h => by cases h) (fun _ _ h => by cases h) (fun _ _ h => by cases h)
/-- The result is written: what was to be written stands there, and its rows stand. -/
theorem key_putG {w0 W : World} {g : Nat} (h : Blk 46 W g keyZ) (hW : Below w0.heap.size w0 W) (hg : w0.heap.size ≤ g) (k : Ky) (v1 v2 v3 v4 : Value) (hk : KyV W k v1 v2 v3 v4) :
    Blk 46 (((((W.setCell ⟨g, 0, none⟩ (.int .i64 k.cv)).setCell ⟨g, 1, none⟩ v1).setCell ⟨g, 2, none⟩ v2).setCell ⟨g, 3, none⟩ v3).setCell ⟨g, 4, none⟩ v4) g [.int .i64 k.cv, v1, v2, v3, v4] ∧ KyV (((((W.setCell ⟨g, 0, none⟩ (.int .i64 k.cv)).setCell ⟨g, 1, none⟩ v1).setCell ⟨g, 2, none⟩ v2).setCell ⟨g, 3, none⟩ v3).setCell ⟨g, 4, none⟩ v4) k v1 v2 v3 v4 ∧ Below w0.heap.size w0 (((((W.setCell ⟨g, 0, none⟩ (.int .i64 k.cv)).setCell ⟨g, 1, none⟩ v1).setCell ⟨g, 2, none⟩ v2).setCell ⟨g, 3, none⟩ v3).setCell ⟨g, 4, none⟩ v4) := by
  have hU := ((((Upd.set W g 0 (.int .i64 k.cv)).trans (Upd.set _ _ 1 v1)).trans (Upd.set _ _ 2 v2)).trans (Upd.set _ _ 3 v3)).trans (Upd.set _ _ 4 v4)
  exact ⟨((((h.set 0 (.int .i64 k.cv)).set 1 v1).set 2 v2).set 3 v3).set 4 v4, ⟨sl_upA hk.1 h keyZ_nn hU, sl_upA hk.2.1 h keyZ_nn hU, hk.2.2.1.upd h keyZ_nn hU, hk.2.2.2.upd h keyZ_nn hU⟩, hU.below hW hW.size hg⟩
theorem key_celG {W : World} {g : Nat} (h : Blk 46 W g keyZ) : (W.cell? ⟨g, 0, none⟩ = some (.int .i64 0) ∧ W.cell? ⟨g, 1, none⟩ = some (.slice none 0 0) ∧ W.cell? ⟨g, 2, none⟩ = some (.slice none 0 0) ∧ W.cell? ⟨g, 3, none⟩ = some (.slice none 0 0) ∧ W.cell? ⟨g, 4, none⟩ = some (.slice none 0 0)) ∧ W.frozen? ⟨g, 0, none⟩ = false ∧ W.frozen? ⟨g, 1, none⟩ = false ∧ W.frozen? ⟨g, 2, none⟩ = false ∧ W.frozen? ⟨g, 3, none⟩ = false ∧ W.frozen? ⟨g, 4, none⟩ = false :=
  ⟨⟨h.cell 0, h.cell 1, h.cell 2, h.cell 3, h.cell 4⟩, h.frozen 0, h.frozen 1, h.frozen 2, h.frozen 3, h.frozen 4⟩
set_option maxHeartbeats 4000000 in
theorem readPoint_any {w : World} {an ak : Addr} (hG : Glb w an ak) (c : Int) (a : Option Addr) (n cp : Nat) (B : List Int) (hB : Sl .u8 w (.slice a n cp) B) (uB : U8s B) :
    Calls Tryz.prog 59 #[.int .i64 c, .slice a n cp] w fun e w' => KeyAns an ak w' e (ptK c B) ∧ Below w.heap.size w w' := by
  have HP : Hid (∀ W, Below w.heap.size w W → Calls Tryz.prog 81 #[.int .i64 c, .slice a n cp] W (PrsA W c B)) := fun W h => Parse_any c a n cp B (below_sl h hB) uB
  have HN : Hid (∀ W s, Below w.heap.size w W → Calls Tryz.prog 78 #[.string s] W fun e w' => e = .returned (flV ak s) ∧ W = w') := fun W s h => noKey_any (hG.below h) s
  obtain ⟨O, hO⟩ : ∃ O, ptK c B = O := ⟨_, rfl⟩
  rw [hO]
  have HQ : Hid (O = if (prsS c B).2.2 = 0 then (⟨c, [], [], (prsS c B).1, (prsS c B).2.1⟩, 0) else (ky0, 80)) := by show _ = _; rw [← hO]; rfl
  clear hG hB uB hO
  go_enter Tryz.func59, Tryz.ntmps59
  go_wp2_with fail
  refine (HP.out _ (al1 _)).mono ?_
  rintro e w1 ⟨r0, r1, rfl, h0, h1, hb⟩
  obtain ⟨x1, m1, d1, rfl⟩ : ∃ a n c, r0 = .slice a n c := by obtain ⟨a, c, h, _⟩ := h0; exact ⟨a, _, c, h⟩
  obtain ⟨x2, m2, d2, rfl⟩ : ∃ a n c, r1 = .slice a n c := by obtain ⟨a, c, h, _⟩ := h1; exact ⟨a, _, c, h⟩
  have H1 : Hid (Below w.heap.size w w1 ∧ Blk 46 w1 w.heap.size keyZ ∧ Nb w1 (.slice x1 m1 d1) (prsS c B).1 ∧ Nb w1 (.slice x2 m2 d2) (prsS c B).2.1) := ⟨below_via (al1 _) hb (Nat.le_refl _), below_blk hb (by simp) (Blk.new _ w _), h0, h1⟩
  obtain ⟨er, her⟩ : ∃ er, (prsS c B).2.2 = er := ⟨_, rfl⟩
  rw [her] at HQ ⊢
  clear hb h0 h1 HP her
  simp only [List.toArray]
  go_upto_region 2 with (fail)
  refine wp_gen (fun W => Blk 44 W w1.heap.size [.slice x1 m1 d1, .slice x2 m2 d2] ∧ Below w1.heap.size w1 W) ⟨Blk.new _ w1 _, al1 _⟩ ?_
  rintro W2 ⟨hB, hBw⟩
  have H2 : Hid (Below w.heap.size w W2 ∧ Blk 46 W2 w.heap.size keyZ ∧ Nb W2 (.slice x1 m1 d1) (prsS c B).1 ∧ Nb W2 (.slice x2 m2 d2) (prsS c B).2.1) := ⟨below_via H1.out.1 hBw (Nat.le_refl _), below_blk hBw H1.out.2.1.lt H1.out.2.1, H1.out.2.2.1.below hBw, H1.out.2.2.2.below hBw⟩
  have i0 : W2.cell? ⟨w1.heap.size, 0, none⟩ = some (.slice x1 m1 d1) := hB.cell 0
  have i1 : W2.cell? ⟨w1.heap.size, 1, none⟩ = some (.slice x2 m2 d2) := hB.cell 1
  obtain ⟨⟨z0, z1, z2, z3, z4⟩, f0, f1, f2, f3, f4⟩ := key_celG H2.out.2.1
  clear hB hBw H1
  by_cases he : er = 0
  · subst he
    have HV : Hid (O = (⟨c, [], [], (prsS c B).1, (prsS c B).2.1⟩, 0)) := HQ.out
    clear HQ HN
    go_wp2
    have hz := key_putG H2.out.2.1 H2.out.1 (Nat.le_refl _) ⟨c, [], [], (prsS c B).1, (prsS c B).2.1⟩ (.slice none 0 0) (.slice none 0 0) (.slice x1 m1 d1) (.slice x2 m2 d2) ⟨Sl.nilA _ _, Sl.nilA _ _, H2.out.2.2.1, H2.out.2.2.2⟩
    refine bodyPost_ret (results_blk2 rfl rfl hz.1 Tryz.underlying46 rfl Tryz.sizeKey rfl) rfl ⟨?_, hz.2.2⟩
    rw [HV.out]
    exact ⟨_, _, _, _, _, rfl, hz.2.1, .inl ⟨rfl, rfl⟩⟩
  · have he' : (er != 0) = true := by simpa using he
    have HV : Hid (O = (ky0, 80)) := by show _ = _; rw [HQ.out, if_neg he]
    clear HQ he i0 i1
    go_wp2_with (go_at_call 78; refine (HN.out _ _ H2.out.1).mono ?_; rintro e w9 ⟨rfl, rfl⟩)
    have hz := key_putG H2.out.2.1 H2.out.1 (Nat.le_refl _) ky0 (.slice none 0 0) (.slice none 0 0) (.slice none 0 0) (.slice none 0 0) (KyV.zero _)
    refine bodyPost_ret (results_blk2 rfl rfl hz.1 Tryz.underlying46 rfl Tryz.sizeKey rfl) rfl ⟨?_, hz.2.2⟩
    rw [HV.out]
    exact ⟨_, _, _, _, _, rfl, hz.2.1, .inr (.inl ⟨rfl, _, rfl⟩)⟩
end Go.Proofs.YtillkhjihggcjaaGreatDoor
/-
  Alg: readRsa.
-/
namespace Go.Proofs.YtillkhjihggcjaaGreatDoor
open Go.RowKit
set_option maxRecDepth 20000
theorem uintS_u32 (X : List Int) : U32s (uintS X).1 := by
  unfold uintS fromS
  repeat' split
  all_goals first
    | exact lim_u32 _
    | (intro x hx; simp at hx; done)
theorem num_of {x : El} {N : List Int} (h : numO x = some N) : isP x 2 = true ∧ (uintS x.d).2 = 0 ∧ N = (uintS x.d).1 := by
  unfold numO at h
  split at h
  · rename_i h1; exact ⟨h1.1, h1.2, (Option.some.inj h).symm⟩
  · cases h
set_option maxHeartbeats 8000000 in
theorem readRsa_any {w : World} {an ak : Addr} (hG : Glb w an ak) (a : Option Addr) (n cp : Nat) (B : List Int) (hB : Sl .u8 w (.slice a n cp) B) (uB : U8s B) (lB : B.length ≤ 6000) :
    Calls Tryz.prog 57 #[.slice a n cp] w fun e w' => KeyAns an ak w' e (rsaK B) ∧ Below w.heap.size w w' := by
  have HI : Hid (∀ W, Below w.heap.size w W → Calls Tryz.prog 77 #[.slice a n cp] W fun e w' => OneOut W.heap.size w' e (oneS (splitS B)) ∧ Below W.heap.size W w') := fun W h => OneS_any _ B (below_sl h hB) uB (by omega)
  have HN : Hid (∀ W s, Below w.heap.size w W → Calls Tryz.prog 78 #[.string s] W fun e w' => e = .returned (flV ak s) ∧ W = w') := fun W s h => noKey_any (hG.below h) s
  have hy := oneS_good uB lB
  obtain ⟨O, hO⟩ : ∃ O, rsaK B = O := ⟨_, rfl⟩
  rw [hO]
  obtain ⟨⟨y, er⟩, hye⟩ : ∃ ye, oneS (splitS B) = ye := ⟨_, rfl⟩
  have HQ : Hid (O = if er = 0 then rsaR (rowS y) else (ky0, 80)) := by show _ = _; rw [← hO]; unfold rsaK; rw [hye]
  rw [hye] at HI hy
  simp only [] at hy
  have HYg : Hid (y.d.length ≤ 6000 ∧ U8s y.d) := hy
  clear hG hB uB lB hO hye hy
  go_enter Tryz.func57, Tryz.ntmps57
  go_wp2_with fail
  refine (HI.out _ (al1 _)).mono ?_
  rintro e w1 ⟨⟨b1, m1, d1, b2, m2, d2, rfl, hd, hr⟩, hb⟩
  have H1 : Hid (Below w.heap.size w w1 ∧ Blk 46 w1 w.heap.size keyZ ∧ Sl .u8 w1 (.slice b1 m1 d1) y.d) := ⟨below_via (al1 _) hb (Nat.le_refl _), below_blk hb (by simp) (Blk.new _ w _), hd.sl⟩
  clear hb HI hd hr
  simp only []
  have HR : Hid (∀ W, Below w1.heap.size w1 W → Calls Tryz.prog 55 #[.agg #[.int .i64 y.cl, .int .i64 y.tg, .bool y.co, .slice b1 m1 d1, .slice b2 m2 d2]] W fun e w' => RowAns W.heap.size w' e (rowS y) ∧ Below W.heap.size W w') := fun W h => row_any y b1 m1 d1 _ (below_sl h H1.out.2.2) HYg.out.2 HYg.out.1
  obtain ⟨RO, hRO⟩ : ∃ R, rowS y = R := ⟨_, rfl⟩
  have HL : Hid (∀ L, RO = some L → ∀ z ∈ L, z.d.length ≤ 6000 ∧ U8s z.d ∧ 0 ≤ z.tg) := fun L h => rowS_good HYg.out.2 HYg.out.1 (hRO.trans h)
  rw [hRO] at HR HQ
  obtain ⟨ycl, ytg, yco, yD, yR⟩ := y
  simp only [] at HR ⊢
  clear hRO HYg
  go_upto_region 2 with (fail)
  refine wp_gen (fun W => Blk 24 W w1.heap.size [.int .i64 ycl, .int .i64 ytg, .bool yco, .slice b1 m1 d1, .slice b2 m2 d2] ∧ Below w1.heap.size w1 W) ⟨Blk.new _ w1 _, al1 _⟩ ?_
  rintro W2 ⟨hB, hBw⟩
  have H2 : Hid (Below w1.heap.size w1 W2 ∧ Below w.heap.size w W2 ∧ Blk 46 W2 w.heap.size keyZ) := ⟨hBw, below_via H1.out.1 hBw (Nat.le_refl _), below_blk hBw H1.out.2.1.lt H1.out.2.1⟩
  have i0 : W2.cell? ⟨w1.heap.size, 0, none⟩ = some (.int .i64 ycl) := hB.cell 0
  have i1 : W2.cell? ⟨w1.heap.size, 1, none⟩ = some (.int .i64 ytg) := hB.cell 1
  have i2 : W2.cell? ⟨w1.heap.size, 2, none⟩ = some (.bool yco) := hB.cell 2
  have i3 : W2.cell? ⟨w1.heap.size, 3, none⟩ = some (.slice b1 m1 d1) := hB.cell 3
  have i4 : W2.cell? ⟨w1.heap.size, 4, none⟩ = some (.slice b2 m2 d2) := hB.cell 4
  clear hB hBw
  by_cases h0 : er = 0
  · subst h0
    replace HQ : Hid (O = rsaR RO) := HQ.out
    go_wp2_with fail
    refine (HR.out _ H2.out.1).mono ?_
    rintro e w3 ⟨ha, hb3⟩
    have H3 : Hid (Below w.heap.size w w3 ∧ Blk 46 w3 w.heap.size keyZ) := ⟨below_via H2.out.2.1 hb3 (Nat.le_refl _), below_blk hb3 H2.out.2.2.lt H2.out.2.2⟩
    clear hb3 i0 i1 i2 i3 i4 HR
    cases RO with
    | none =>
      obtain ⟨ra, rn, rc, rfl⟩ := ha
      have HO : Hid (O = (ky0, 80)) := HQ.out
      obtain ⟨⟨z0, z1, z2, z3, z4⟩, f0, f1, f2, f3, f4⟩ := key_celG H3.out.2
      clear HQ HL
      go_wp2_with (go_at_call 78; refine (HN.out _ _ H3.out.1).mono ?_; rintro e w9 ⟨rfl, rfl⟩)
      have hz := key_putG H3.out.2 H3.out.1 (Nat.le_refl _) ky0 (.slice none 0 0) (.slice none 0 0) (.slice none 0 0) (.slice none 0 0) (KyV.zero _)
      refine bodyPost_ret (results_blk2 rfl rfl hz.1 Tryz.underlying46 rfl Tryz.sizeKey rfl) rfl ⟨?_, hz.2.2⟩
      rw [HO.out]
      exact ⟨_, _, _, _, _, rfl, hz.2.1, .inr (.inl ⟨rfl, _, rfl⟩)⟩
    | some L =>
      obtain ⟨v, rfl, hv⟩ := ha
      by_cases hl2 : L.length = 2
      · obtain ⟨y0, y1, rfl⟩ : ∃ a b, L = [a, b] := by
          rcases L with _ | ⟨a, _ | ⟨b, _ | ⟨c, L⟩⟩⟩
          · simp at hl2
          · simp at hl2
          · exact ⟨a, b, rfl⟩
          · simp at hl2
        have g0 := HL.out _ rfl y0 (by simp)
        have g1 := HL.out _ rfl y1 (by simp)
        obtain ⟨b, off, c, p1, q1, r1, p2, q2, r2, rfl, hc, hbl, e0, e1, e2, e3, e4, sd, sr, ht⟩ := hv.r.s.cons
        obtain ⟨b', off', c', p3, q3, r3, p4, q4, r4, hvv, hc', hbl', k0, k1, k2, k3, k4, sd', sr', ht'⟩ := ht.cons
        simp only [Value.slice.injEq, Option.some.injEq, Addr.mk.injEq] at hvv
        obtain ⟨⟨rfl, rfl, _⟩, _, rfl⟩ := hvv
        have H4 : Hid (∀ W, Below w3.heap.size w3 W → (W.cell? ⟨b, off + 5, none⟩ = some (.int .i64 y1.cl) ∧ W.cell? ⟨b, off + 5 + 1, none⟩ = some (.int .i64 y1.tg) ∧ W.cell? ⟨b, off + 5 + 2, none⟩ = some (.bool y1.co) ∧ W.cell? ⟨b, off + 5 + 3, none⟩ = some (.slice p3 q3 r3) ∧ W.cell? ⟨b, off + 5 + 4, none⟩ = some (.slice p4 q4 r4)) ∧ Calls Tryz.prog 79 #[.agg #[.int .i64 y1.cl, .int .i64 y1.tg, .bool y1.co, .slice p3 q3 r3, .slice p4 q4 r4]] W fun e w' => NumAns w' e y1 ∧ Below W.heap.size W w') := fun W h => ⟨⟨(h.cell hbl).trans k0, (h.cell hbl).trans k1, (h.cell hbl).trans k2, (h.cell hbl).trans k3, (h.cell hbl).trans k4⟩, readNumber_any y1 p3 q3 r3 p4 q4 r4 (below_sl h sd') g1.2.1 g1.1⟩
        have HC0 : Hid (Calls Tryz.prog 79 #[.agg #[.int .i64 y0.cl, .int .i64 y0.tg, .bool y0.co, .slice p1 q1 r1, .slice p2 q2 r2]] w3 fun e w' => NumAns w' e y0 ∧ Below w3.heap.size w3 w') := readNumber_any y0 p1 q1 r1 p2 q2 r2 sd g0.2.1 g0.1
        replace HQ : Hid (O = rsa2 (numO y0) (numO y1)) := HQ.out
        have HU : Hid ((∀ N, numO y0 = some N → U32s N ∧ N.length ≤ 512) ∧ ∀ N, numO y1 = some N → U32s N ∧ N.length ≤ 512) := ⟨fun N h => by obtain ⟨_, _, rfl⟩ := num_of h; exact ⟨uintS_u32 _, uintS_len g0.2.1⟩, fun N h => by obtain ⟨_, _, rfl⟩ := num_of h; exact ⟨uintS_u32 _, uintS_len g1.2.1⟩⟩
        have kc : ((2 : Nat) : Int) ≤ (c : Int) := by simp at hc; omega
        obtain ⟨ucl, utg, uco, uD, uR⟩ := y0
        simp only [List.length_cons, List.length_nil] at HC0 e0 e1 e2 e3 e4 ⊢
        clear hv hc hbl sd sr ht hc' hbl' k0 k1 k2 k3 k4 sd' sr' ht' HL g0 g1 hl2
        go_wp2_with fail
        refine HC0.out.mono ?_
        rintro e w4 ⟨⟨na, nn, nc, rfl, hN⟩, hb4⟩
        have H5 : Hid (Below w3.heap.size w3 w4 ∧ Sl .u32 w4 (.slice na nn nc) ((numO ⟨ucl, utg, uco, uD, uR⟩).getD (if isP ⟨ucl, utg, uco, uD, uR⟩ 2 = true then (uintS uD).1 else []))) := ⟨hb4, hN⟩
        clear hb4 hN e0 e1 e2 e3 e4 HC0
        obtain ⟨⟨k0, k1, k2, k3, k4⟩, hcall⟩ := H4.out w4 H5.out.1
        have HC1 : Hid (Calls Tryz.prog 79 #[.agg #[.int .i64 y1.cl, .int .i64 y1.tg, .bool y1.co, .slice p3 q3 r3, .slice p4 q4 r4]] w4 fun e w' => NumAns w' e y1 ∧ Below w4.heap.size w4 w') := hcall
        clear hcall H4
        obtain ⟨vcl, vtg, vco, vD, vR⟩ := y1
        simp only [] at HC1 k0 k1 k2 k3 k4
        go_wp2_with fail
        refine HC1.out.mono ?_
        rintro e w5 ⟨⟨ea, en, ec, rfl, hE⟩, hb5⟩
        have H6 : Hid (Below w.heap.size w w5 ∧ Blk 46 w5 w.heap.size keyZ ∧ Sl .u32 w5 (.slice na nn nc) ((numO ⟨ucl, utg, uco, uD, uR⟩).getD (if isP ⟨ucl, utg, uco, uD, uR⟩ 2 = true then (uintS uD).1 else [])) ∧ Sl .u32 w5 (.slice ea en ec) ((numO ⟨vcl, vtg, vco, vD, vR⟩).getD (if isP ⟨vcl, vtg, vco, vD, vR⟩ 2 = true then (uintS vD).1 else []))) := by
          have h35 := below_via H5.out.1 hb5 (Nat.le_refl _)
          exact ⟨below_via H3.out.1 h35 (Nat.le_refl _), below_blk h35 H3.out.2.lt H3.out.2, below_sl hb5 H5.out.2, hE⟩
        clear hb5 hE k0 k1 k2 k3 k4 HC1 H5 H3
        obtain ⟨ON, hON⟩ : ∃ O, numO ⟨ucl, utg, uco, uD, uR⟩ = O := ⟨_, rfl⟩
        obtain ⟨OE, hOE⟩ : ∃ O, numO ⟨vcl, vtg, vco, vD, vR⟩ = O := ⟨_, rfl⟩
        rw [hON, hOE] at H6 HQ HU
        rw [hON, hOE]
        clear hON hOE
        go_upto_region 10 with (fail)
        refine wp_gen (fun W => Blk 42 W w5.heap.size [.slice na nn nc, .slice ea en ec] ∧ Below w5.heap.size w5 W) ⟨Blk.new _ w5 _, al1 _⟩ ?_
        rintro W6 ⟨hB, hBw⟩
        have H7 : Hid (Below w.heap.size w W6 ∧ Blk 46 W6 w.heap.size keyZ ∧ Blk 42 W6 w5.heap.size [.slice na nn nc, .slice ea en ec]) := ⟨below_via H6.out.1 hBw (Nat.le_refl _), below_blk hBw H6.out.2.1.lt H6.out.2.1, hB⟩
        have HS : Hid (Sl .u32 W6 (.slice na nn nc) (ON.getD (if isP ⟨ucl, utg, uco, uD, uR⟩ 2 = true then (uintS uD).1 else [])) ∧ Sl .u32 W6 (.slice ea en ec) (OE.getD (if isP ⟨vcl, vtg, vco, vD, vR⟩ 2 = true then (uintS vD).1 else []))) := ⟨below_sl hBw H6.out.2.2.1, below_sl hBw H6.out.2.2.2⟩
        have j0 : W6.cell? ⟨w5.heap.size, 0, none⟩ = some (.slice na nn nc) := hB.cell 0
        have j1 : W6.cell? ⟨w5.heap.size, 1, none⟩ = some (.slice ea en ec) := hB.cell 1
        clear hB hBw H6
        cases ON with
        | none =>
          have HO : Hid (O = (ky0, 80)) := HQ.out
          obtain ⟨⟨z0, z1, z2, z3, z4⟩, f0, f1, f2, f3, f4⟩ := key_celG H7.out.2.1
          clear HQ HS HU j0 j1
          generalize OE.isSome = ob
          simp only [Option.isSome]
          go_wp2_with (go_at_call 78; refine (HN.out _ _ H7.out.1).mono ?_; rintro e w9 ⟨rfl, rfl⟩)
          have hz := key_putG H7.out.2.1 H7.out.1 (Nat.le_refl _) ky0 (.slice none 0 0) (.slice none 0 0) (.slice none 0 0) (.slice none 0 0) (KyV.zero _)
          refine bodyPost_ret (results_blk2 rfl rfl hz.1 Tryz.underlying46 rfl Tryz.sizeKey rfl) rfl ⟨?_, hz.2.2⟩
          rw [HO.out]
          exact ⟨_, _, _, _, _, rfl, hz.2.1, .inr (.inl ⟨rfl, _, rfl⟩)⟩
        | some N =>
          cases OE with
          | none =>
            have HO : Hid (O = (ky0, 80)) := HQ.out
            obtain ⟨⟨z0, z1, z2, z3, z4⟩, f0, f1, f2, f3, f4⟩ := key_celG H7.out.2.1
            clear HQ HS HU j0 j1
            simp only [Option.isSome]
            go_wp2_with (go_at_call 78; refine (HN.out _ _ H7.out.1).mono ?_; rintro e w9 ⟨rfl, rfl⟩)
            have hz := key_putG H7.out.2.1 H7.out.1 (Nat.le_refl _) ky0 (.slice none 0 0) (.slice none 0 0) (.slice none 0 0) (.slice none 0 0) (KyV.zero _)
            refine bodyPost_ret (results_blk2 rfl rfl hz.1 Tryz.underlying46 rfl Tryz.sizeKey rfl) rfl ⟨?_, hz.2.2⟩
            rw [HO.out]
            exact ⟨_, _, _, _, _, rfl, hz.2.1, .inr (.inl ⟨rfl, _, rfl⟩)⟩
          | some E =>
            have hu0 := HU.out.1 N rfl
            have hu1 := HU.out.2 E rfl
            replace HS : Hid (Sl .u32 W6 (.slice na nn nc) N ∧ Sl .u32 W6 (.slice ea en ec) E) := HS.out
            have hln : N.length = nn := by obtain ⟨_, _, h, _⟩ := HS.out.1; simp only [Value.slice.injEq] at h; exact h.2.1.symm
            have hle : E.length = en := by obtain ⟨_, _, h, _⟩ := HS.out.2; simp only [Value.slice.injEq] at h; exact h.2.1.symm
            have HK : Hid (Calls Tryz.prog 80 #[.agg #[.slice na nn nc, .slice ea en ec]] W6 fun e w' => e = .returned (.int .i64 (if keyOk N E then 0 else 80)) ∧ Below W6.heap.size W6 w') := Check_any na ea nn nc en ec N E HS.out.1 hu0.1 hln HS.out.2 hu1.1 hle (by omega) (by omega)
            have HO : Hid (O = if keyOk N E = true then (⟨0, N, E, 0, 0⟩, 0) else (ky0, 80)) := HQ.out
            clear HQ HU hu0 hu1 hln hle
            simp only [Option.isSome]
            go_wp2_with fail
            refine HK.out.mono ?_
            rintro e w7 ⟨rfl, hb7⟩
            have H8 : Hid (Below w.heap.size w w7 ∧ Blk 46 w7 w.heap.size keyZ ∧ KyV w7 ⟨0, N, E, 0, 0⟩ (.slice na nn nc) (.slice ea en ec) (.slice none 0 0) (.slice none 0 0)) := ⟨below_via H7.out.1 hb7 (Nat.le_refl _), below_blk hb7 H7.out.2.1.lt H7.out.2.1, below_sl hb7 HS.out.1, below_sl hb7 HS.out.2, nil_nb _, nil_nb _⟩
            have l0 : w7.cell? ⟨w5.heap.size, 0, none⟩ = some (.slice na nn nc) := (below_blk hb7 H7.out.2.2.lt H7.out.2.2).cell 0
            have l1 : w7.cell? ⟨w5.heap.size, 1, none⟩ = some (.slice ea en ec) := (below_blk hb7 H7.out.2.2.lt H7.out.2.2).cell 1
            obtain ⟨⟨z0, z1, z2, z3, z4⟩, f0, f1, f2, f3, f4⟩ := key_celG H8.out.2.1
            clear hb7 j0 j1 HK HS
            cases hk : keyOk N E with
            | true =>
              have HV : Hid (O = (⟨0, N, E, 0, 0⟩, 0)) := by show _ = _; rw [HO.out, if_pos hk]
              clear HO hk
              simp only [if_true]
              go_wp2
              have hz := key_putG H8.out.2.1 H8.out.1 (Nat.le_refl _) ⟨0, N, E, 0, 0⟩ (.slice na nn nc) (.slice ea en ec) (.slice none 0 0) (.slice none 0 0) H8.out.2.2
              refine bodyPost_ret (results_blk2 rfl rfl hz.1 Tryz.underlying46 rfl Tryz.sizeKey rfl) rfl ⟨?_, hz.2.2⟩
              rw [HV.out]
              exact ⟨_, _, _, _, _, rfl, hz.2.1, .inl ⟨rfl, rfl⟩⟩
            | false =>
              have HV : Hid (O = (ky0, 80)) := by show _ = _; rw [HO.out, hk]; rfl
              clear HO hk l0 l1
              simp only [Bool.false_eq_true, if_false]
              go_wp2_with (go_at_call 78; refine (HN.out _ _ H8.out.1).mono ?_; rintro e w9 ⟨rfl, rfl⟩)
              have hz := key_putG H8.out.2.1 H8.out.1 (Nat.le_refl _) ky0 (.slice none 0 0) (.slice none 0 0) (.slice none 0 0) (.slice none 0 0) (KyV.zero _)
              refine bodyPost_ret (results_blk2 rfl rfl hz.1 Tryz.underlying46 rfl Tryz.sizeKey rfl) rfl ⟨?_, hz.2.2⟩
              rw [HV.out]
              exact ⟨_, _, _, _, _, rfl, hz.2.1, .inr (.inl ⟨rfl, _, rfl⟩)⟩
      · have HO : Hid (O = (ky0, 80)) := by
          show _ = _
          rw [HQ.out]
          rcases L with _ | ⟨a, _ | ⟨b, _ | ⟨c, L⟩⟩⟩
          · rfl
          · rfl
          · simp at hl2
          · rfl
        obtain ⟨av, cv, rfl⟩ := hv.len
        obtain ⟨kl, hkl⟩ : ∃ k, L.length = k := ⟨_, rfl⟩
        rw [hkl]
        have hk2 : ((kl : Int) != 2) = true := by simp; omega
        obtain ⟨⟨z0, z1, z2, z3, z4⟩, f0, f1, f2, f3, f4⟩ := key_celG H3.out.2
        clear HQ HL hv hkl hl2
        go_wp2_with (go_at_call 78; refine (HN.out _ _ H3.out.1).mono ?_; rintro e w9 ⟨rfl, rfl⟩)
        have hz := key_putG H3.out.2 H3.out.1 (Nat.le_refl _) ky0 (.slice none 0 0) (.slice none 0 0) (.slice none 0 0) (.slice none 0 0) (KyV.zero _)
        refine bodyPost_ret (results_blk2 rfl rfl hz.1 Tryz.underlying46 rfl Tryz.sizeKey rfl) rfl ⟨?_, hz.2.2⟩
        rw [HO.out]
        exact ⟨_, _, _, _, _, rfl, hz.2.1, .inr (.inl ⟨rfl, _, rfl⟩)⟩
  · have h00 : (er != 0) = true := by simpa using h0
    have HO : Hid (O = (ky0, 80)) := by show _ = _; rw [HQ.out, if_neg h0]
    obtain ⟨⟨z0, z1, z2, z3, z4⟩, f0, f1, f2, f3, f4⟩ := key_celG H2.out.2.2
    clear HQ HL h0 i0 i1 i2 i3 i4
    go_wp2_with (go_at_call 78; refine (HN.out _ _ H2.out.2.1).mono ?_; rintro e w9 ⟨rfl, rfl⟩)
    have hz := key_putG H2.out.2.2 H2.out.2.1 (Nat.le_refl _) ky0 (.slice none 0 0) (.slice none 0 0) (.slice none 0 0) (.slice none 0 0) (KyV.zero _)
    refine bodyPost_ret (results_blk2 rfl rfl hz.1 Tryz.underlying46 rfl Tryz.sizeKey rfl) rfl ⟨?_, hz.2.2⟩
    rw [HO.out]
    exact ⟨_, _, _, _, _, rfl, hz.2.1, .inr (.inl ⟨rfl, _, rfl⟩)⟩
end Go.Proofs.YtillkhjihggcjaaGreatDoor
