/-
  Alg: an identifier's rest; readDigest, Digest.
-/
import Derived.Test.YtillkhjihggcjaaGreatDoorK39
namespace Go.Proofs.YtillkhjihggcjaaGreatDoor
open Go.RowKit
set_option maxRecDepth 20000
theorem isAlone_any {w : World} (S : ByteArray) (a : Option Addr) (n c : Nat) : Calls Tryz.prog 47 #[.agg #[.string S, .slice a n c]] w fun e w' => e = .returned (.bool ((n : Int) == 0)) ∧ Below w.heap.size w w' := by
  go_enter Tryz.func47, Tryz.ntmps47
  go_wp2
  go_ret
  exact ⟨rfl, al1 _⟩
/-- A Null stands behind. -/
def vdP : List El → Bool
  | [b] => isP b 5 && b.d.isEmpty
  | _ => false
theorem vdB_is {rest : List El} (h : rest.length ≤ 1) : vdB rest = (((rest.length : Nat) : Int) == 0 || vdP rest) := by
  match rest, h with
  | [], _ => rfl
  | [b], _ => rfl
set_option maxHeartbeats 1000000 in
theorem isVoid_any {w : World} (S : ByteArray) (a : Option Addr) (n c : Nat) (rest : List El) (hn : rest.length = n) (h1 : n ≤ 1) (hr : TlvS w (.slice a n c) rest) :
    Calls Tryz.prog 48 #[.agg #[.string S, .slice a n c]] w fun e w' => e = .returned (.bool (vdP rest)) ∧ Below w.heap.size w w' := by
  rcases rest with _ | ⟨y, _ | ⟨z, rest⟩⟩
  · obtain rfl : n = 0 := hn.symm
    unfold vdP
    clear hr
    go_enter Tryz.func48, Tryz.ntmps48
    go_wp2
    go_ret
    exact ⟨rfl, al1 _⟩
  · obtain rfl : n = 1 := hn.symm
    obtain ⟨b, off, c', b1, m1, d1, b2, m2, d2, hvv, hc, hbl, e0, e1, e2, e3, e4, sd, sr, ht⟩ := hr.cons
    simp only [Value.slice.injEq] at hvv
    obtain ⟨rfl, hx1, rfl⟩ := hvv
    clear hx1
    have HP : Hid (∀ W : World, Calls Tryz.prog 71 #[.agg #[.int .i64 y.cl, .int .i64 y.tg, .bool y.co, .slice b1 m1 d1, .slice b2 m2 d2], .int .i64 5] W fun e w' => e = .returned (.bool (isP y 5)) ∧ Below W.heap.size W w') := fun W => isPlain_any y _ _ 5
    obtain ⟨ycl, ytg, yco, yD, yR⟩ := y
    simp only [] at HP e0 e1 e2 e3 e4
    have HV : Hid (vdP [⟨ycl, ytg, yco, yD, yR⟩] = (isP ⟨ycl, ytg, yco, yD, yR⟩ 5 && ((m1 : Int) == 0))) := by
      obtain ⟨_, _, hv, _⟩ := sd
      simp only [Value.slice.injEq] at hv
      obtain ⟨_, rfl, _⟩ := hv
      show _ = _
      unfold vdP
      cases yD with
      | nil => simp
      | cons u l => simp; intro _; omega
    rw [HV.out]
    obtain ⟨p, hp⟩ : ∃ p, isP ⟨ycl, ytg, yco, yD, yR⟩ 5 = p := ⟨_, rfl⟩
    rw [hp] at HP ⊢
    have HC : Hid (∀ W, Below w.heap.size w W → W.cell? ⟨b, off, none⟩ = some (.int .i64 ycl) ∧ W.cell? ⟨b, off + 1, none⟩ = some (.int .i64 ytg) ∧ W.cell? ⟨b, off + 2, none⟩ = some (.bool yco) ∧ W.cell? ⟨b, off + 3, none⟩ = some (.slice b1 m1 d1) ∧ W.cell? ⟨b, off + 4, none⟩ = some (.slice b2 m2 d2)) := fun W h => ⟨(h.cell hbl).trans e0, (h.cell hbl).trans e1, (h.cell hbl).trans e2, (h.cell hbl).trans e3, (h.cell hbl).trans e4⟩
    clear hp HV sd sr ht hr hc hn h1 e0 e1 e2 e3 e4 hbl
    go_enter Tryz.func48, Tryz.ntmps48
    go_upto_region 1 with (fail)
    refine wp_gen (fun W => Blk 101 W w.heap.size [.string S, .slice (some ⟨b, off, none⟩) 1 c] ∧ Below w.heap.size w W) ⟨Blk.new _ w _, al1 _⟩ ?_
    rintro W2 ⟨hB, hBw⟩
    have q1 : W2.cell? ⟨w.heap.size, 1, none⟩ = some (.slice (some ⟨b, off, none⟩) 1 c) := hB.cell 1
    obtain ⟨e0, e1, e2, e3, e4⟩ := HC.out _ hBw
    have H2 : Hid (Below w.heap.size w W2 ∧ Blk 101 W2 w.heap.size [.string S, .slice (some ⟨b, off, none⟩) 1 c]) := ⟨hBw, hB⟩
    clear hB hBw
    cases p with
    | false =>
      go_wp2_with (go_at_call 71; refine (HP.out _).mono ?_; rintro e w3 ⟨rfl, hb3⟩; have H3 : Hid (Below w.heap.size w w3) := below_via H2.out.1 hb3 (Nat.le_refl _); clear hb3)
      go_ret
      exact ⟨rfl, H3.out⟩
    | true =>
      go_wp2_with (go_at_call 71; refine (HP.out _).mono ?_; rintro e w3 ⟨rfl, hb3⟩; have H3 : Hid (Below w.heap.size w w3) := below_via H2.out.1 hb3 (Nat.le_refl _); have q1' : w3.cell? ⟨w.heap.size, 1, none⟩ = some (.slice (some ⟨b, off, none⟩) 1 c) := (below_blk hb3 H2.out.2.lt H2.out.2).cell 1; obtain ⟨g0, g1, g2, g3, g4⟩ := HC.out _ H3.out; clear hb3)
      go_ret
      exact ⟨by simp, H3.out⟩
  · simp at hn; omega
end Go.Proofs.YtillkhjihggcjaaGreatDoor
/-
  Alg: readDigest, Digest.
-/
namespace Go.Proofs.YtillkhjihggcjaaGreatDoor
open Go.RowKit
set_option maxRecDepth 20000
theorem rowS_good {x : El} (uD : U8s x.d) (lD : x.d.length ≤ 6000) {L : List El} (h : rowS x = some L) : ∀ y ∈ L, y.d.length ≤ 6000 ∧ U8s y.d ∧ 0 ≤ y.tg := by
  intro y hy
  unfold rowS at h
  split at h
  · cases hS : splitS x.d with
    | inl pq => rw [hS] at h; cases h
    | inr L' =>
      rw [hS] at h
      obtain rfl : L' = L := Option.some.inj h
      have := splitS_good uD hS y hy
      exact ⟨by omega, this.2⟩
  · cases h
theorem oidO_size {x : El} (lD : x.d.length ≤ 6000) {S : ByteArray} (h : oidO x = some S) : S.size ≤ 130000 := by
  unfold oidO at h
  split at h
  · rw [← Option.some.inj h, st_size]; exact oidF_len lD
  · cases h
theorem idS_good {x : El} (uD : U8s x.d) (lD : x.d.length ≤ 6000) {S : ByteArray} {rest : List El} (h : idS x = some (S, rest)) : rest.length ≤ 1 ∧ S.size ≤ 130000 ∧ ∀ y ∈ rest, y.d.length ≤ 6000 ∧ U8s y.d ∧ 0 ≤ y.tg := by
  unfold idS at h
  cases hR : rowS x with
  | none => rw [hR] at h; cases h
  | some L =>
    rw [hR] at h
    have hg := rowS_good uD lD hR
    rcases L with _ | ⟨a, _ | ⟨b, _ | ⟨c, L⟩⟩⟩
    · cases h
    · have h : idC [] (oidO a) = some (S, rest) := h
      cases hO : oidO a with
      | none => rw [hO] at h; cases h
      | some S' =>
        rw [hO] at h
        have h := Option.some.inj h
        simp only [Prod.mk.injEq] at h
        obtain ⟨rfl, rfl⟩ := h
        exact ⟨by simp, oidO_size (hg a (by simp)).1 hO, by simp⟩
    · have h : idC [b] (oidO a) = some (S, rest) := h
      cases hO : oidO a with
      | none => rw [hO] at h; cases h
      | some S' =>
        rw [hO] at h
        have h := Option.some.inj h
        simp only [Prod.mk.injEq] at h
        obtain ⟨rfl, rfl⟩ := h
        exact ⟨by simp, oidO_size (hg a (by simp)).1 hO, fun y hy => hg y (by rw [List.mem_singleton] at hy; subst hy; simp)⟩
    · cases h
theorem sneq (w : World) (u : TypeId) (v : Value) : (binOp .neq 62 (.iface u v) .nilIface).run Tryz.prog w = .ok (.bool true) w := by rfl
/-- What readDigest tells. -/
def DigAns (an : Addr) (e : Ending) (d : Int) : Prop := (d = 0 ∧ ∃ s, e = .returned (.tuple #[.int .i64 0, flV an s])) ∨ (d ≠ 0 ∧ e = .returned (.tuple #[.int .i64 d, .nilIface]))
set_option maxHeartbeats 4000000 in
theorem readDigest_any {w : World} {an ak : Addr} (hG : Glb w an ak) (hT : P10 w) (x : El) (a1 : Option Addr) (n1 c1 : Nat) (a2 : Option Addr) (n2 c2 : Nat) (hD : Sl .u8 w (.slice a1 n1 c1) x.d) (uD : U8s x.d) (lD : x.d.length ≤ 6000) :
    Calls Tryz.prog 21 #[.agg #[.int .i64 x.cl, .int .i64 x.tg, .bool x.co, .slice a1 n1 c1, .slice a2 n2 c2]] w fun e w' => DigAns an e (digS x) ∧ Below w.heap.size w w' := by
  have HI : Hid (∀ W, Below w.heap.size w W → Calls Tryz.prog 46 #[.agg #[.int .i64 x.cl, .int .i64 x.tg, .bool x.co, .slice a1 n1 c1, .slice a2 n2 c2]] W fun e w' => IdAns an w' e (idS x) ∧ Below W.heap.size W w') := fun W h => readId_any (hG.below h) (hT.below h) x a1 n1 c1 a2 n2 c2 (below_sl h hD) uD lD
  have HN : Hid (∀ W s, Below w.heap.size w W → Calls Tryz.prog 49 #[.string s] W fun e w' => e = .returned (flV an s) ∧ W = w') := fun W s h => none_any (hG.below h) s
  obtain ⟨O, hO⟩ : ∃ O, digS x = O := ⟨_, rfl⟩
  obtain ⟨RO, hRO⟩ : ∃ R, idS x = R := ⟨_, rfl⟩
  rw [hO]
  have HQ : Hid (O = digO RO) := by show _ = _; rw [← hO, ← hRO]; rfl
  have HL : Hid (∀ S rest, RO = some (S, rest) → rest.length ≤ 1 ∧ S.size ≤ 130000) := fun S rest h => by have := idS_good uD lD (hRO.trans h); exact ⟨this.1, this.2.1⟩
  rw [hRO] at HI
  have hsn := sneq
  obtain ⟨cl, tg, co, D, R⟩ := x
  simp only [] at hD HI ⊢
  clear hD uD lD hO hRO hG hT
  go_enter Tryz.func21, Tryz.ntmps21
  go_wp2_with fail
  refine (HI.out _ (al1 _)).mono ?_
  rintro e w1 ⟨ha, hb⟩
  have H1 : Hid (Below w.heap.size w w1) := below_via (al1 _) hb (Nat.le_refl _)
  clear hb HI
  cases RO with
  | none =>
    obtain ⟨s, rfl⟩ := ha
    have HO : Hid (O = 0) := HQ.out
    clear HQ HL
    simp only [flV, erV]
    go_wp2
    go_ret2
    exact ⟨.inl ⟨HO.out, _, rfl⟩, below_via H1.out (al1 _) (Nat.le_refl _)⟩
  | some SR =>
    obtain ⟨S, rest⟩ := SR
    obtain ⟨a, n, c, rfl, hn, hr⟩ := ha
    have hl := HL.out S rest rfl
    rw [hn] at hl
    have HO : Hid (O = if vdB rest = true then dgN S else 0) := HQ.out
    clear HQ HL
    have HV : Hid (vdB rest = ((((n : Nat) : Int) == 0) || vdP rest)) := by rw [← hn]; exact vdB_is (by omega)
    obtain ⟨vb, hvb⟩ : ∃ v, vdP rest = v := ⟨_, rfl⟩
    have HW : Hid (∀ W, Below w1.heap.size w1 W → Calls Tryz.prog 48 #[.agg #[.string S, .slice a n c]] W fun e w' => e = .returned (.bool vb) ∧ Below W.heap.size W w') := fun W h => by rw [← hvb]; exact isVoid_any S a n c rest hn hl.1 (hr.below h)
    have HA : Hid (∀ W, Calls Tryz.prog 47 #[.agg #[.string S, .slice a n c]] W fun e w' => e = .returned (.bool ((n : Int) == 0)) ∧ Below W.heap.size W w') := fun W => isAlone_any S a n c
    rw [hvb] at HV
    have hS := hl.2
    obtain ⟨q, hq⟩ : ∃ q, (((n : Nat) : Int) == 0) = q := ⟨_, rfl⟩
    rw [hq] at HV HA
    clear hr hn hl hvb hq
    go_upto_region 2 with (fail)
    refine wp_gen (fun W => Blk 101 W w1.heap.size [.string S, .slice a n c] ∧ Below w1.heap.size w1 W) ⟨Blk.new _ w1 _, al1 _⟩ ?_
    rintro W2 ⟨hB, hBw⟩
    have H2 : Hid (Below w1.heap.size w1 W2 ∧ Below w.heap.size w W2 ∧ ∀ W, Below W2.heap.size W2 W → Blk 101 W w1.heap.size [.string S, .slice a n c]) := ⟨hBw, below_via H1.out hBw (Nat.le_refl _), fun W h => below_blk h hB.lt hB⟩
    have i0 : W2.cell? ⟨w1.heap.size, 0, none⟩ = some (.string S) := hB.cell 0
    have i1 : W2.cell? ⟨w1.heap.size, 1, none⟩ = some (.slice a n c) := hB.cell 1
    clear hB hBw
    go_wp2_with fail
    refine (HA.out _).mono ?_
    rintro e w3 ⟨rfl, hb3⟩
    have H3 : Hid (Below w1.heap.size w1 w3 ∧ Below w.heap.size w w3 ∧ Below W2.heap.size W2 w3) := ⟨below_via H2.out.1 hb3 (Nat.le_refl _), below_via H2.out.2.1 hb3 (Nat.le_refl _), hb3⟩
    have j0 : w3.cell? ⟨w1.heap.size, 0, none⟩ = some (.string S) := (H2.out.2.2 _ hb3).cell 0
    have j1 : w3.cell? ⟨w1.heap.size, 1, none⟩ = some (.slice a n c) := (H2.out.2.2 _ hb3).cell 1
    clear hb3 i0 i1
    cases q with
    | true =>
      replace HO : Hid (O = dgN S) := by show _ = _; rw [HO.out, HV.out]; rfl
      have HB : Hid (Below w.heap.size w w3) := H3.out.2.1
      clear HV HW HA H2 H3
      cases h0 : (S.toList == [49, 46, 51, 46, 49, 52, 46, 51, 46, 50, 46, 50, 54]) with
      | true =>
        have HD : Hid (O = 1) := by show _ = _; rw [HO.out]; unfold dgN; simp [h0]
        clear HO
        go_wp2
        go_ret2
        rw [HD.out]
        exact ⟨.inr ⟨by decide, rfl⟩, HB.out⟩
      | false =>
        cases h1 : (S.toList == [50, 46, 49, 54, 46, 56, 52, 48, 46, 49, 46, 49, 48, 49, 46, 51, 46, 52, 46, 50, 46, 49]) with
        | true =>
          have HD : Hid (O = 2) := by show _ = _; rw [HO.out]; unfold dgN; simp [h0, h1]
          clear HO
          go_wp2
          go_ret2
          rw [HD.out]
          exact ⟨.inr ⟨by decide, rfl⟩, HB.out⟩
        | false =>
          cases h2 : (S.toList == [50, 46, 49, 54, 46, 56, 52, 48, 46, 49, 46, 49, 48, 49, 46, 51, 46, 52, 46, 50, 46, 50]) with
          | true =>
            have HD : Hid (O = 3) := by show _ = _; rw [HO.out]; unfold dgN; simp [h0, h1, h2]
            clear HO
            go_wp2
            go_ret2
            rw [HD.out]
            exact ⟨.inr ⟨by decide, rfl⟩, HB.out⟩
          | false =>
            cases h3 : (S.toList == [50, 46, 49, 54, 46, 56, 52, 48, 46, 49, 46, 49, 48, 49, 46, 51, 46, 52, 46, 50, 46, 51]) with
            | true =>
              have HD : Hid (O = 4) := by show _ = _; rw [HO.out]; unfold dgN; simp [h0, h1, h2, h3]
              clear HO
              go_wp2
              go_ret2
              rw [HD.out]
              exact ⟨.inr ⟨by decide, rfl⟩, HB.out⟩
            | false =>
              have HD : Hid (O = 0) := by show _ = _; rw [HO.out]; unfold dgN; simp [h0, h1, h2, h3]
              clear HO
              go_wp2_with (go_at_call 49; refine (HN.out _ _ (by exact HB.out)).mono ?_; rintro e w9 ⟨rfl, rfl⟩)
              go_ret2
              exact ⟨.inl ⟨HD.out, _, rfl⟩, HB.out⟩
    | false =>
      go_wp2_with fail
      refine (HW.out _ H3.out.1).mono ?_
      rintro e w4 ⟨rfl, hb4⟩
      have HB : Hid (Below w.heap.size w w4) := below_via H3.out.2.1 hb4 (Nat.le_refl _)
      have l0 : w4.cell? ⟨w1.heap.size, 0, none⟩ = some (.string S) := (H2.out.2.2 _ (below_via H3.out.2.2 hb4 (Nat.le_refl _))).cell 0
      clear hb4 j0 j1
      cases vb with
      | true =>
        replace HO : Hid (O = dgN S) := by show _ = _; rw [HO.out, HV.out]; rfl
        clear HV HW HA H2 H3
        cases h0 : (S.toList == [49, 46, 51, 46, 49, 52, 46, 51, 46, 50, 46, 50, 54]) with
        | true =>
          have HD : Hid (O = 1) := by show _ = _; rw [HO.out]; unfold dgN; simp [h0]
          clear HO
          go_wp2
          go_ret2
          rw [HD.out]
          exact ⟨.inr ⟨by decide, rfl⟩, HB.out⟩
        | false =>
          cases h1 : (S.toList == [50, 46, 49, 54, 46, 56, 52, 48, 46, 49, 46, 49, 48, 49, 46, 51, 46, 52, 46, 50, 46, 49]) with
          | true =>
            have HD : Hid (O = 2) := by show _ = _; rw [HO.out]; unfold dgN; simp [h0, h1]
            clear HO
            go_wp2
            go_ret2
            rw [HD.out]
            exact ⟨.inr ⟨by decide, rfl⟩, HB.out⟩
          | false =>
            cases h2 : (S.toList == [50, 46, 49, 54, 46, 56, 52, 48, 46, 49, 46, 49, 48, 49, 46, 51, 46, 52, 46, 50, 46, 50]) with
            | true =>
              have HD : Hid (O = 3) := by show _ = _; rw [HO.out]; unfold dgN; simp [h0, h1, h2]
              clear HO
              go_wp2
              go_ret2
              rw [HD.out]
              exact ⟨.inr ⟨by decide, rfl⟩, HB.out⟩
            | false =>
              cases h3 : (S.toList == [50, 46, 49, 54, 46, 56, 52, 48, 46, 49, 46, 49, 48, 49, 46, 51, 46, 52, 46, 50, 46, 51]) with
              | true =>
                have HD : Hid (O = 4) := by show _ = _; rw [HO.out]; unfold dgN; simp [h0, h1, h2, h3]
                clear HO
                go_wp2
                go_ret2
                rw [HD.out]
                exact ⟨.inr ⟨by decide, rfl⟩, HB.out⟩
              | false =>
                have HD : Hid (O = 0) := by show _ = _; rw [HO.out]; unfold dgN; simp [h0, h1, h2, h3]
                clear HO
                go_wp2_with (go_at_call 49; refine (HN.out _ _ (by exact HB.out)).mono ?_; rintro e w9 ⟨rfl, rfl⟩)
                go_ret2
                exact ⟨.inl ⟨HD.out, _, rfl⟩, HB.out⟩
      | false =>
        have HD : Hid (O = 0) := by show _ = _; rw [HO.out, HV.out]; rfl
        clear HO HV HW HA H2 H3
        go_wp2_with (go_at_call 49; refine (HN.out _ _ (by exact HB.out)).mono ?_; rintro e w9 ⟨rfl, rfl⟩)
        go_ret2
        exact ⟨.inl ⟨HD.out, _, rfl⟩, HB.out⟩
end Go.Proofs.YtillkhjihggcjaaGreatDoor
/-
  Alg: Digest; the reference's row, Is, read, void, Digest.
-/
namespace Go.Proofs.YtillkhjihggcjaaGreatDoor
open Go.RowKit
set_option maxRecDepth 20000
def errD (d : Int) : Int := if d = 0 then 110 else 0
set_option maxHeartbeats 1000000 in
theorem Digest_any {w : World} {an ak : Addr} (hG : Glb w an ak) (hT : P10 w) (x : El) (a1 : Option Addr) (n1 c1 : Nat) (a2 : Option Addr) (n2 c2 : Nat) (hD : Sl .u8 w (.slice a1 n1 c1) x.d) (uD : U8s x.d) (lD : x.d.length ≤ 6000) :
    Calls Tryz.prog 7 #[.agg #[.int .i64 x.cl, .int .i64 x.tg, .bool x.co, .slice a1 n1 c1, .slice a2 n2 c2]] w fun e w' => e = .returned (.tuple #[.int .i64 (digS x), .int .i64 (errD (digS x))]) ∧ Below w.heap.size w w' := by
  have HI : Hid (∀ W, Below w.heap.size w W → Calls Tryz.prog 21 #[.agg #[.int .i64 x.cl, .int .i64 x.tg, .bool x.co, .slice a1 n1 c1, .slice a2 n2 c2]] W fun e w' => DigAns an e (digS x) ∧ Below W.heap.size W w') := fun W h => readDigest_any (hG.below h) (hT.below h) x a1 n1 c1 a2 n2 c2 (below_sl h hD) uD lD
  have HN : Hid (∀ W s, Below w.heap.size w W → Calls Tryz.prog 22 #[.iface 129 (.agg #[.string s, .iface 236 (.pointer (some an))])] W fun e w' => e = .returned (.int .i64 110) ∧ Below W.heap.size W w') := fun W s h => toldN (hG.below h) s
  have HZ : Hid (∀ W, Calls Tryz.prog 22 #[.nilIface] W fun e w' => e = .returned (.int .i64 0) ∧ W = w') := fun W => told0
  obtain ⟨d, hd⟩ : ∃ d, digS x = d := ⟨_, rfl⟩
  rw [hd] at HI ⊢
  obtain ⟨cl, tg, co, D, R⟩ := x
  simp only [] at hD HI ⊢
  clear hD uD lD hd hG hT
  go_enter Tryz.func7, Tryz.ntmps7
  go_wp2_with fail
  refine (HI.out _ (al1 _)).mono ?_
  rintro e w1 ⟨ha, hb⟩
  have H1 : Hid (Below w.heap.size w w1) := below_via (al1 _) hb (Nat.le_refl _)
  clear hb HI
  rcases ha with ⟨h0, s, rfl⟩ | ⟨h0, rfl⟩
  · have HE : Hid (errD d = 110) := by show _ = _; unfold errD; rw [if_pos h0]
    subst h0
    simp only [flV, erV]
    go_wp2_with (go_at_call 22; refine (HN.out _ _ H1.out).mono ?_; rintro e w2 ⟨rfl, hb2⟩; have H2 : Hid (Below w.heap.size w w2) := below_via H1.out hb2 (Nat.le_refl _); clear hb2)
    go_ret2
    rw [HE.out]
    exact ⟨rfl, H2.out⟩
  · have HE : Hid (errD d = 0) := by show _ = _; unfold errD; rw [if_neg h0]
    clear h0
    go_wp2_with (go_at_call 22; refine (HZ.out _).mono ?_; rintro e w2 ⟨rfl, rfl⟩)
    go_ret2
    rw [HE.out]
    exact ⟨rfl, H1.out⟩
end Go.Proofs.YtillkhjihggcjaaGreatDoor
/-
  Alg: ways to sign; named, readInt, readMask.
-/
namespace Go.Proofs.YtillkhjihggcjaaGreatDoor
open Go.RowKit
set_option maxRecDepth 20000
/-- A way to sign. -/
structure Al where
  k : Int
  d : Int
  m : Int
  s : Int
def alC (a : Al) : List Value := [.int .i64 a.k, .int .i64 a.d, .int .i64 a.m, .int .i64 a.s]
def nmd (S : ByteArray) : Al := if (S.toList == [49, 46, 50, 46, 56, 52, 48, 46, 49, 49, 51, 53, 52, 57, 46, 49, 46, 49, 46, 49]) = true then ⟨1, 0, 0, 0⟩ else if (S.toList == [49, 46, 50, 46, 56, 52, 48, 46, 49, 49, 51, 53, 52, 57, 46, 49, 46, 49, 46, 53]) = true then ⟨1, 1, 0, 0⟩ else if (S.toList == [49, 46, 50, 46, 56, 52, 48, 46, 49, 49, 51, 53, 52, 57, 46, 49, 46, 49, 46, 49, 49]) = true then ⟨1, 2, 0, 0⟩ else if (S.toList == [49, 46, 50, 46, 56, 52, 48, 46, 49, 49, 51, 53, 52, 57, 46, 49, 46, 49, 46, 49, 50]) = true then ⟨1, 3, 0, 0⟩ else if (S.toList == [49, 46, 50, 46, 56, 52, 48, 46, 49, 49, 51, 53, 52, 57, 46, 49, 46, 49, 46, 49, 51]) = true then ⟨1, 4, 0, 0⟩ else if (S.toList == [49, 46, 50, 46, 56, 52, 48, 46, 49, 49, 51, 53, 52, 57, 46, 49, 46, 49, 46, 49, 48]) = true then ⟨2, 1, 1, 20⟩ else if (S.toList == [49, 46, 50, 46, 56, 52, 48, 46, 49, 48, 48, 52, 53, 46, 52, 46, 49]) = true then ⟨3, 1, 0, 0⟩ else if (S.toList == [49, 46, 50, 46, 56, 52, 48, 46, 49, 48, 48, 52, 53, 46, 52, 46, 51, 46, 50]) = true then ⟨3, 2, 0, 0⟩ else if (S.toList == [49, 46, 50, 46, 56, 52, 48, 46, 49, 48, 48, 52, 53, 46, 52, 46, 51, 46, 51]) = true then ⟨3, 3, 0, 0⟩ else if (S.toList == [49, 46, 50, 46, 56, 52, 48, 46, 49, 48, 48, 52, 53, 46, 52, 46, 51, 46, 52]) = true then ⟨3, 4, 0, 0⟩ else ⟨0, 0, 0, 0⟩
def mskO : Option (ByteArray × List El) → Int
  | some (s, [b]) => if (s.toList == [49, 46, 50, 46, 56, 52, 48, 46, 49, 49, 51, 53, 52, 57, 46, 49, 46, 49, 46, 56]) = true then digS b else 0
  | _ => 0
def mskS (x : El) : Int := mskO (idS x)
def intO (y : El) (lo hi : Int) : Option Int := if isP y 2 = true ∧ intE y.d = 0 ∧ lo ≤ intV y.d ∧ intV y.d ≤ hi then some (intV y.d) else none
def putD (a : Al) (n : Int) : Option Al := if n = 0 then none else some ⟨a.k, n, a.m, a.s⟩
def putM (a : Al) (n : Int) : Option Al := if n = 0 then none else some ⟨a.k, a.d, n, a.s⟩
def putS (a : Al) : Option Int → Option Al
  | none => none
  | some n => some ⟨a.k, a.d, a.m, n⟩
def putN (a : Al) : Option Int → Option Al
  | none => none
  | some _ => some a
def fldY (a : Al) (t : Int) (y : El) : Option Al := if t = 0 then putD a (digS y) else if t = 1 then putM a (mskS y) else if t = 2 then putS a (intO y 0 1000) else if t = 3 then putN a (intO y 1 1) else none
def fldS (a : Al) (x : El) : Option Al := if (oneS (splitS x.d)).2 = 0 then fldY a x.tg (oneS (splitS x.d)).1 else none
def pssF : List El → Al → Int → Option Al
  | [], a, _ => some a
  | x :: L, a, least => if x.cl = 2 ∧ x.co = true ∧ least ≤ x.tg then (match fldS a x with
      | none => none
      | some a' => pssF L a' (x.tg + 1)) else none
def pssO : Option (List El) → Option Al
  | none => none
  | some L => pssF L ⟨2, 1, 1, 20⟩ 0
def pssS : List El → Option Al
  | [r] => pssO (rowS r)
  | _ => none
def sgnA (a : Al) (rest : List El) : Option Al := if a.k = 2 then pssS rest else if a.k = 1 then (if vdB rest = true then some a else none) else if a.k = 3 then (if rest.isEmpty = true then some a else none) else none
def sgnO : Option (ByteArray × List El) → Option Al
  | none => none
  | some (S, rest) => sgnA (nmd S) rest
def sgnS (x : El) : Option Al := sgnO (idS x)
theorem Tryz.sizeAl : (Tryz.prog.info? 32).map (·.size) = some 4 := by kernel_rfl
theorem results_blk1 {P : Program} {fn : Func} {T : TypeId} {t : Tmp} (h : fn.results = #[.cell t T]) {a : Array Value} {w : World} {b : Nat} {cs : List Value} {d : TypeDesc} (ha : a.getD t undef = .pointer (some ⟨b, 0, none⟩))
    (hb : Blk T w b cs) (hu : P.underlying T = some d) (hd : d.isRow = true) (hi : (P.info? T).map (·.size) = some cs.length) : (results fn a).run P w = .ok (.agg cs.toArray) w := by
  have := run_loadVar_mid (P := P) w b 0 T cs d hb.whole hu hd hi
  have ha' : a[t]?.getD undef = .pointer (some ⟨b, 0, none⟩) := by simpa using ha
  simp [results, h, ha', asAddr, this]
def IntAns (an : Addr) (e : Ending) : Option Int → Prop
  | none => ∃ s, e = .returned (.tuple #[.int .i64 0, flV an s])
  | some n => e = .returned (.tuple #[.int .i64 n, .nilIface])
set_option maxHeartbeats 1000000 in
theorem readInt_any {w : World} {an ak : Addr} (hG : Glb w an ak) (x : El) (a1 : Option Addr) (n1 c1 : Nat) (a2 : Option Addr) (n2 c2 : Nat) (lo hi : Int) (hD : Sl .u8 w (.slice a1 n1 c1) x.d) (uD : U8s x.d) (lD : x.d.length ≤ 6000) :
    Calls Tryz.prog 95 #[.agg #[.int .i64 x.cl, .int .i64 x.tg, .bool x.co, .slice a1 n1 c1, .slice a2 n2 c2], .int .i64 lo, .int .i64 hi] w fun e w' => IntAns an e (intO x lo hi) ∧ Below w.heap.size w w' := by
  have HP : Hid (∀ W : World, Calls Tryz.prog 71 #[.agg #[.int .i64 x.cl, .int .i64 x.tg, .bool x.co, .slice a1 n1 c1, .slice a2 n2 c2], .int .i64 2] W fun e w' => e = .returned (.bool (isP x 2)) ∧ Below W.heap.size W w') := fun W => isPlain_any x _ _ 2
  have HI : Hid (∀ W, Below w.heap.size w W → Calls Tryz.prog 114 #[.slice a1 n1 c1] W fun e w' => e = .returned (.tuple #[.int .i64 (intV x.d), .int .i64 (intE x.d)]) ∧ W = w') := fun W h => Int_any _ x.d (below_sl h hD) uD (by omega)
  have HN : Hid (∀ W s, Below w.heap.size w W → Calls Tryz.prog 49 #[.string s] W fun e w' => e = .returned (flV an s) ∧ W = w') := fun W s h => none_any (hG.below h) s
  obtain ⟨O, hO⟩ : ∃ O, intO x lo hi = O := ⟨_, rfl⟩
  rw [hO]
  have HQ : Hid (O = if isP x 2 = true ∧ intE x.d = 0 ∧ lo ≤ intV x.d ∧ intV x.d ≤ hi then some (intV x.d) else none) := by show _ = _; rw [← hO]; rfl
  obtain ⟨cl, tg, co, D, R⟩ := x
  simp only [] at hD uD lD HP HI HQ ⊢
  obtain ⟨b, hb⟩ : ∃ b, isP ⟨cl, tg, co, D, R⟩ 2 = b := ⟨_, rfl⟩
  rw [hb] at HP HQ
  obtain ⟨v, hv⟩ : ∃ v, intV D = v := ⟨_, rfl⟩
  obtain ⟨er, her⟩ : ∃ er, intE D = er := ⟨_, rfl⟩
  rw [hv, her] at HI HQ
  clear hD uD lD hG hO hb hv her
  go_enter Tryz.func95, Tryz.ntmps95
  go_wp2_with fail
  refine (HP.out _).mono ?_
  rintro e w1 ⟨rfl, hb1⟩
  have H1 : Hid (Below w.heap.size w w1) := below_via (al1 _) hb1 (Nat.le_refl _)
  have q3 : w1.cell? ⟨w.heap.size, 3, none⟩ = some (.slice a1 n1 c1) := (below_blk hb1 (by simp) (Blk.new 24 w [.int .i64 cl, .int .i64 tg, .bool co, .slice a1 n1 c1, .slice a2 n2 c2])).cell 3
  clear hb1
  have nope : Hid (∀ W, Below w.heap.size w W → O = none → ∀ s, (IntAns an (.returned (.tuple #[.int .i64 0, flV an s])) O ∧ Below w.heap.size w W)) := fun W h ho s => ⟨by rw [ho]; exact ⟨s, rfl⟩, h⟩
  cases b with
  | false =>
    have HO : Hid (O = none) := by show _ = _; rw [HQ.out]; simp
    clear HQ HP HI q3
    go_wp2_with (go_at_call 49; refine (HN.out _ _ H1.out).mono ?_; rintro e w9 ⟨rfl, rfl⟩)
    go_ret2
    exact nope.out _ H1.out HO.out _
  | true =>
    go_wp2_with fail
    refine (HI.out _ H1.out).mono ?_
    rintro e w2 ⟨rfl, rfl⟩
    clear q3 HP HI
    by_cases h0 : er = 0
    · subst h0
      by_cases h1 : v < lo
      · have HO : Hid (O = none) := by show _ = _; rw [HQ.out, if_neg]; omega
        clear HQ
        go_wp2_with (go_at_call 49; refine (HN.out _ _ H1.out).mono ?_; rintro e w9 ⟨rfl, rfl⟩)
        go_ret2
        exact nope.out _ H1.out HO.out _
      · by_cases h2 : hi < v
        · have HO : Hid (O = none) := by show _ = _; rw [HQ.out, if_neg]; omega
          clear HQ
          go_wp2_with (go_at_call 49; refine (HN.out _ _ H1.out).mono ?_; rintro e w9 ⟨rfl, rfl⟩)
          go_ret2
          exact nope.out _ H1.out HO.out _
        · have HO : Hid (O = some v) := by show _ = _; rw [HQ.out, if_pos]; exact ⟨by trivial, by trivial, by omega, by omega⟩
          clear HQ
          go_wp2
          go_ret2
          rw [HO.out]
          exact ⟨rfl, H1.out⟩
    · have h00 : (er != 0) = true := by simpa using h0
      have HO : Hid (O = none) := by show _ = _; rw [HQ.out, if_neg]; simp [h0]
      clear HQ h0
      go_wp2_with (go_at_call 49; refine (HN.out _ _ H1.out).mono ?_; rintro e w9 ⟨rfl, rfl⟩)
      go_ret2
      exact nope.out _ H1.out HO.out _
end Go.Proofs.YtillkhjihggcjaaGreatDoor
/-
  Alg: readMask.
-/
namespace Go.Proofs.YtillkhjihggcjaaGreatDoor
open Go.RowKit
set_option maxRecDepth 20000
set_option maxHeartbeats 4000000 in
theorem readMask_any {w : World} {an ak : Addr} (hG : Glb w an ak) (hT : P10 w) (x : El) (a1 : Option Addr) (n1 c1 : Nat) (a2 : Option Addr) (n2 c2 : Nat) (hD : Sl .u8 w (.slice a1 n1 c1) x.d) (uD : U8s x.d) (lD : x.d.length ≤ 6000) :
    Calls Tryz.prog 94 #[.agg #[.int .i64 x.cl, .int .i64 x.tg, .bool x.co, .slice a1 n1 c1, .slice a2 n2 c2]] w fun e w' => DigAns an e (mskS x) ∧ Below w.heap.size w w' := by
  have HI : Hid (∀ W, Below w.heap.size w W → Calls Tryz.prog 46 #[.agg #[.int .i64 x.cl, .int .i64 x.tg, .bool x.co, .slice a1 n1 c1, .slice a2 n2 c2]] W fun e w' => IdAns an w' e (idS x) ∧ Below W.heap.size W w') := fun W h => readId_any (hG.below h) (hT.below h) x a1 n1 c1 a2 n2 c2 (below_sl h hD) uD lD
  have HN : Hid (∀ W s, Below w.heap.size w W → Calls Tryz.prog 49 #[.string s] W fun e w' => e = .returned (flV an s) ∧ W = w') := fun W s h => none_any (hG.below h) s
  have HG : Hid (Glb w an ak ∧ P10 w) := ⟨hG, hT⟩
  obtain ⟨O, hO⟩ : ∃ O, mskS x = O := ⟨_, rfl⟩
  obtain ⟨RO, hRO⟩ : ∃ R, idS x = R := ⟨_, rfl⟩
  rw [hO]
  have HQ : Hid (O = mskO RO) := by show _ = _; rw [← hO, ← hRO]; rfl
  have HL : Hid (∀ S rest, RO = some (S, rest) → rest.length ≤ 1 ∧ ∀ y ∈ rest, y.d.length ≤ 6000 ∧ U8s y.d ∧ 0 ≤ y.tg) := fun S rest h => by have := idS_good uD lD (hRO.trans h); exact ⟨this.1, this.2.2⟩
  rw [hRO] at HI
  have hsn := sneq
  obtain ⟨cl, tg, co, D, R⟩ := x
  simp only [] at hD HI ⊢
  clear hD uD lD hO hRO hG hT
  go_enter Tryz.func94, Tryz.ntmps94
  go_wp2_with fail
  refine (HI.out _ (al1 _)).mono ?_
  rintro e w1 ⟨ha, hb⟩
  have H1 : Hid (Below w.heap.size w w1) := below_via (al1 _) hb (Nat.le_refl _)
  clear hb HI
  cases RO with
  | none =>
    obtain ⟨s, rfl⟩ := ha
    have HO : Hid (O = 0) := HQ.out
    clear HQ HL HG
    simp only [flV, erV]
    go_wp2
    go_ret2
    exact ⟨.inl ⟨HO.out, _, rfl⟩, below_via H1.out (al1 _) (Nat.le_refl _)⟩
  | some SR =>
    obtain ⟨S, rest⟩ := SR
    obtain ⟨a, n, c, rfl, hn, hr⟩ := ha
    have hl := HL.out S rest rfl
    have HA : Hid (∀ W, Calls Tryz.prog 47 #[.agg #[.string S, .slice a n c]] W fun e w' => e = .returned (.bool ((n : Int) == 0)) ∧ Below W.heap.size W w') := fun W => isAlone_any S a n c
    go_upto_region 2 with (fail)
    refine wp_gen (fun W => Blk 101 W w1.heap.size [.string S, .slice a n c] ∧ Below w1.heap.size w1 W) ⟨Blk.new _ w1 _, al1 _⟩ ?_
    rintro W2 ⟨hB, hBw⟩
    have H2 : Hid (Below w1.heap.size w1 W2 ∧ Below w.heap.size w W2 ∧ ∀ W, Below W2.heap.size W2 W → Blk 101 W w1.heap.size [.string S, .slice a n c]) := ⟨hBw, below_via H1.out hBw (Nat.le_refl _), fun W h => below_blk h hB.lt hB⟩
    have i0 : W2.cell? ⟨w1.heap.size, 0, none⟩ = some (.string S) := hB.cell 0
    have i1 : W2.cell? ⟨w1.heap.size, 1, none⟩ = some (.slice a n c) := hB.cell 1
    clear hB hBw
    cases h0 : (S.toList == [49, 46, 50, 46, 56, 52, 48, 46, 49, 49, 51, 53, 52, 57, 46, 49, 46, 49, 46, 56]) with
    | false =>
      have HO : Hid (O = 0) := by
        show _ = _
        rw [HQ.out]
        rcases rest with _ | ⟨y, _ | ⟨z, rest⟩⟩
        · rfl
        · simp [mskO, h0]
        · rfl
      have h0' : (S.toList != [49, 46, 50, 46, 56, 52, 48, 46, 49, 49, 51, 53, 52, 57, 46, 49, 46, 49, 46, 56]) = true := by rw [bne, h0]; rfl
      clear HQ HL HG hr hl hn
      go_wp2_with (go_at_call 49; refine (HN.out _ _ H2.out.2.1).mono ?_; rintro e w9 ⟨rfl, rfl⟩)
      go_ret2
      exact ⟨.inl ⟨HO.out, _, rfl⟩, H2.out.2.1⟩
    | true =>
      have h0' : (S.toList != [49, 46, 50, 46, 56, 52, 48, 46, 49, 49, 51, 53, 52, 57, 46, 49, 46, 49, 46, 56]) = false := by rw [bne, h0]; rfl
      rcases rest with _ | ⟨y, _ | ⟨z, rest⟩⟩
      · obtain rfl : n = 0 := hn.symm
        have HO : Hid (O = 0) := HQ.out
        clear HQ HL HG hr hl hn
        go_wp2_with fail
        refine (HA.out _).mono ?_
        rintro e w3 ⟨rfl, hb3⟩
        have H3 : Hid (Below w.heap.size w w3) := below_via H2.out.2.1 hb3 (Nat.le_refl _)
        clear hb3 i0 i1
        go_wp2_with (go_at_call 49; refine (HN.out _ _ H3.out).mono ?_; rintro e w9 ⟨rfl, rfl⟩)
        go_ret2
        exact ⟨.inl ⟨HO.out, _, rfl⟩, H3.out⟩
      · obtain rfl : n = 1 := hn.symm
        have HO : Hid (O = digS y) := by show _ = _; rw [HQ.out]; simp [mskO, h0]
        have hy := hl.2 y (by simp)
        obtain ⟨b, off, c', b1, m1, d1, b2, m2, d2, hvv, hc, hbl, e0, e1, e2, e3, e4, sd, sr, ht⟩ := hr.cons
        simp only [Value.slice.injEq] at hvv
        obtain ⟨rfl, hx1, rfl⟩ := hvv
        have HY : Hid (∀ W, Below w1.heap.size w1 W → (W.cell? ⟨b, off, none⟩ = some (.int .i64 y.cl) ∧ W.cell? ⟨b, off + 1, none⟩ = some (.int .i64 y.tg) ∧ W.cell? ⟨b, off + 2, none⟩ = some (.bool y.co) ∧ W.cell? ⟨b, off + 3, none⟩ = some (.slice b1 m1 d1) ∧ W.cell? ⟨b, off + 4, none⟩ = some (.slice b2 m2 d2)) ∧ Calls Tryz.prog 21 #[.agg #[.int .i64 y.cl, .int .i64 y.tg, .bool y.co, .slice b1 m1 d1, .slice b2 m2 d2]] W fun e w' => DigAns an e (digS y) ∧ Below W.heap.size W w') := fun W h => ⟨⟨(h.cell hbl).trans e0, (h.cell hbl).trans e1, (h.cell hbl).trans e2, (h.cell hbl).trans e3, (h.cell hbl).trans e4⟩, readDigest_any (HG.out.1.below (below_via H1.out h (Nat.le_refl _))) (HG.out.2.below (below_via H1.out h (Nat.le_refl _))) y b1 m1 d1 b2 m2 d2 (below_sl h sd) hy.2.1 hy.1⟩
        obtain ⟨dg, hdg⟩ : ∃ dg, digS y = dg := ⟨_, rfl⟩
        rw [hdg] at HO HY
        obtain ⟨ycl, ytg, yco, yD, yR⟩ := y
        simp only [] at HY
        clear HQ HL HG hr hl hn hx1 hy hc hbl e0 e1 e2 e3 e4 sd sr ht hdg
        go_wp2_with fail
        refine (HA.out _).mono ?_
        rintro e w3 ⟨rfl, hb3⟩
        have H3 : Hid (Below w1.heap.size w1 w3 ∧ Below w.heap.size w w3) := ⟨below_via H2.out.1 hb3 (Nat.le_refl _), below_via H2.out.2.1 hb3 (Nat.le_refl _)⟩
        have j1 : w3.cell? ⟨w1.heap.size, 1, none⟩ = some (.slice (some ⟨b, off, none⟩) 1 c) := (H2.out.2.2 _ hb3).cell 1
        obtain ⟨⟨e0, e1, e2, e3, e4⟩, hcall⟩ := HY.out _ H3.out.1
        have HC : Hid (Calls Tryz.prog 21 #[.agg #[.int .i64 ycl, .int .i64 ytg, .bool yco, .slice b1 m1 d1, .slice b2 m2 d2]] w3 fun e w' => DigAns an e dg ∧ Below w3.heap.size w3 w') := hcall
        clear hb3 i0 i1 hcall HY
        go_wp2_with fail
        refine HC.out.mono ?_
        rintro e w4 ⟨hd, hb4⟩
        have H4 : Hid (Below w.heap.size w w4) := below_via H3.out.2 hb4 (Nat.le_refl _)
        clear hb4 j1 e0 e1 e2 e3 e4
        have HO' := HO.out
        rcases hd with ⟨h1, s, rfl⟩ | ⟨h1, rfl⟩
        · have HX : Hid (O = 0) := HO'.trans h1
          clear HO HO' h1
          simp only [flV, erV]
          go_wp2
          go_ret2
          exact ⟨.inl ⟨HX.out, _, rfl⟩, H4.out⟩
        · have HX : Hid (O = dg ∧ dg ≠ 0) := ⟨HO', h1⟩
          clear HO HO' h1
          go_wp2
          go_ret2
          exact ⟨.inr ⟨by rw [HX.out.1]; exact HX.out.2, by rw [HX.out.1]; rfl⟩, H4.out⟩
      · have := hl.1; simp at this
end Go.Proofs.YtillkhjihggcjaaGreatDoor
/-
  Alg: named.
-/
namespace Go.Proofs.YtillkhjihggcjaaGreatDoor
open Go.RowKit
set_option maxRecDepth 20000
set_option maxHeartbeats 4000000 in
theorem named_any {w : World} (S : ByteArray) : Calls Tryz.prog 51 #[.string S] w fun e w' => e = .returned (.agg #[.int .i64 (nmd S).k, .int .i64 (nmd S).d, .int .i64 (nmd S).m, .int .i64 (nmd S).s]) ∧ Below w.heap.size w w' := by
  obtain ⟨A, hA⟩ : ∃ A, nmd S = A := ⟨_, rfl⟩
  rw [hA]
  have HA : Hid (nmd S = A) := hA
  clear hA
  cases h0 : (S.toList == [49, 46, 50, 46, 56, 52, 48, 46, 49, 49, 51, 53, 52, 57, 46, 49, 46, 49, 46, 49]) with
  | true =>
    have HV : Hid (A = ⟨1, 0, 0, 0⟩) := by show _ = _; rw [← HA.out]; unfold nmd; simp [h0]
    clear HA
    go_enter Tryz.func51, Tryz.ntmps51
    go_wp2
    refine bodyPost_ret (results_blk1 rfl rfl (Blk.new 32 w [.int .i64 1, .int .i64 0, .int .i64 0, .int .i64 0]) Tryz.underlying32 rfl Tryz.sizeAl) rfl ⟨?_, al1 _⟩
    rw [HV.out]
  | false =>
    cases h1 : (S.toList == [49, 46, 50, 46, 56, 52, 48, 46, 49, 49, 51, 53, 52, 57, 46, 49, 46, 49, 46, 53]) with
    | true =>
      have HV : Hid (A = ⟨1, 1, 0, 0⟩) := by show _ = _; rw [← HA.out]; unfold nmd; simp [h0, h1]
      clear HA
      go_enter Tryz.func51, Tryz.ntmps51
      go_wp2
      refine bodyPost_ret (results_blk1 rfl rfl (Blk.new 32 w [.int .i64 1, .int .i64 1, .int .i64 0, .int .i64 0]) Tryz.underlying32 rfl Tryz.sizeAl) rfl ⟨?_, al1 _⟩
      rw [HV.out]
    | false =>
      cases h2 : (S.toList == [49, 46, 50, 46, 56, 52, 48, 46, 49, 49, 51, 53, 52, 57, 46, 49, 46, 49, 46, 49, 49]) with
      | true =>
        have HV : Hid (A = ⟨1, 2, 0, 0⟩) := by show _ = _; rw [← HA.out]; unfold nmd; simp [h0, h1, h2]
        clear HA
        go_enter Tryz.func51, Tryz.ntmps51
        go_wp2
        refine bodyPost_ret (results_blk1 rfl rfl (Blk.new 32 w [.int .i64 1, .int .i64 2, .int .i64 0, .int .i64 0]) Tryz.underlying32 rfl Tryz.sizeAl) rfl ⟨?_, al1 _⟩
        rw [HV.out]
      | false =>
        cases h3 : (S.toList == [49, 46, 50, 46, 56, 52, 48, 46, 49, 49, 51, 53, 52, 57, 46, 49, 46, 49, 46, 49, 50]) with
        | true =>
          have HV : Hid (A = ⟨1, 3, 0, 0⟩) := by show _ = _; rw [← HA.out]; unfold nmd; simp [h0, h1, h2, h3]
          clear HA
          go_enter Tryz.func51, Tryz.ntmps51
          go_wp2
          refine bodyPost_ret (results_blk1 rfl rfl (Blk.new 32 w [.int .i64 1, .int .i64 3, .int .i64 0, .int .i64 0]) Tryz.underlying32 rfl Tryz.sizeAl) rfl ⟨?_, al1 _⟩
          rw [HV.out]
        | false =>
          cases h4 : (S.toList == [49, 46, 50, 46, 56, 52, 48, 46, 49, 49, 51, 53, 52, 57, 46, 49, 46, 49, 46, 49, 51]) with
          | true =>
            have HV : Hid (A = ⟨1, 4, 0, 0⟩) := by show _ = _; rw [← HA.out]; unfold nmd; simp [h0, h1, h2, h3, h4]
            clear HA
            go_enter Tryz.func51, Tryz.ntmps51
            go_wp2
            refine bodyPost_ret (results_blk1 rfl rfl (Blk.new 32 w [.int .i64 1, .int .i64 4, .int .i64 0, .int .i64 0]) Tryz.underlying32 rfl Tryz.sizeAl) rfl ⟨?_, al1 _⟩
            rw [HV.out]
          | false =>
            cases h5 : (S.toList == [49, 46, 50, 46, 56, 52, 48, 46, 49, 49, 51, 53, 52, 57, 46, 49, 46, 49, 46, 49, 48]) with
            | true =>
              have HV : Hid (A = ⟨2, 1, 1, 20⟩) := by show _ = _; rw [← HA.out]; unfold nmd; simp [h0, h1, h2, h3, h4, h5]
              clear HA
              go_enter Tryz.func51, Tryz.ntmps51
              go_wp2
              refine bodyPost_ret (results_blk1 rfl rfl (Blk.new 32 w [.int .i64 2, .int .i64 1, .int .i64 1, .int .i64 20]) Tryz.underlying32 rfl Tryz.sizeAl) rfl ⟨?_, al1 _⟩
              rw [HV.out]
            | false =>
              cases h6 : (S.toList == [49, 46, 50, 46, 56, 52, 48, 46, 49, 48, 48, 52, 53, 46, 52, 46, 49]) with
              | true =>
                have HV : Hid (A = ⟨3, 1, 0, 0⟩) := by show _ = _; rw [← HA.out]; unfold nmd; simp [h0, h1, h2, h3, h4, h5, h6]
                clear HA
                go_enter Tryz.func51, Tryz.ntmps51
                go_wp2
                refine bodyPost_ret (results_blk1 rfl rfl (Blk.new 32 w [.int .i64 3, .int .i64 1, .int .i64 0, .int .i64 0]) Tryz.underlying32 rfl Tryz.sizeAl) rfl ⟨?_, al1 _⟩
                rw [HV.out]
              | false =>
                cases h7 : (S.toList == [49, 46, 50, 46, 56, 52, 48, 46, 49, 48, 48, 52, 53, 46, 52, 46, 51, 46, 50]) with
                | true =>
                  have HV : Hid (A = ⟨3, 2, 0, 0⟩) := by show _ = _; rw [← HA.out]; unfold nmd; simp [h0, h1, h2, h3, h4, h5, h6, h7]
                  clear HA
                  go_enter Tryz.func51, Tryz.ntmps51
                  go_wp2
                  refine bodyPost_ret (results_blk1 rfl rfl (Blk.new 32 w [.int .i64 3, .int .i64 2, .int .i64 0, .int .i64 0]) Tryz.underlying32 rfl Tryz.sizeAl) rfl ⟨?_, al1 _⟩
                  rw [HV.out]
                | false =>
                  cases h8 : (S.toList == [49, 46, 50, 46, 56, 52, 48, 46, 49, 48, 48, 52, 53, 46, 52, 46, 51, 46, 51]) with
                  | true =>
                    have HV : Hid (A = ⟨3, 3, 0, 0⟩) := by show _ = _; rw [← HA.out]; unfold nmd; simp [h0, h1, h2, h3, h4, h5, h6, h7, h8]
                    clear HA
                    go_enter Tryz.func51, Tryz.ntmps51
                    go_wp2
                    refine bodyPost_ret (results_blk1 rfl rfl (Blk.new 32 w [.int .i64 3, .int .i64 3, .int .i64 0, .int .i64 0]) Tryz.underlying32 rfl Tryz.sizeAl) rfl ⟨?_, al1 _⟩
                    rw [HV.out]
                  | false =>
                    cases h9 : (S.toList == [49, 46, 50, 46, 56, 52, 48, 46, 49, 48, 48, 52, 53, 46, 52, 46, 51, 46, 52]) with
                    | true =>
                      have HV : Hid (A = ⟨3, 4, 0, 0⟩) := by show _ = _; rw [← HA.out]; unfold nmd; simp [h0, h1, h2, h3, h4, h5, h6, h7, h8, h9]
                      clear HA
                      go_enter Tryz.func51, Tryz.ntmps51
                      go_wp2
                      refine bodyPost_ret (results_blk1 rfl rfl (Blk.new 32 w [.int .i64 3, .int .i64 4, .int .i64 0, .int .i64 0]) Tryz.underlying32 rfl Tryz.sizeAl) rfl ⟨?_, al1 _⟩
                      rw [HV.out]
                    | false =>
                      have HV : Hid (A = ⟨0, 0, 0, 0⟩) := by show _ = _; rw [← HA.out]; unfold nmd; simp [h0, h1, h2, h3, h4, h5, h6, h7, h8, h9]
                      clear HA
                      go_enter Tryz.func51, Tryz.ntmps51
                      go_wp2
                      refine bodyPost_ret (results_blk1 rfl rfl (Blk.new 32 w [.int .i64 0, .int .i64 0, .int .i64 0, .int .i64 0]) Tryz.underlying32 rfl Tryz.sizeAl) rfl ⟨?_, al1 _⟩
                      rw [HV.out]
end Go.Proofs.YtillkhjihggcjaaGreatDoor
