/-
  Alg: the reference's void, Digest.
-/
import Derived.Test.YtillkhjihggcjaaGreatDoorK14
namespace Go.Proofs.YtillkhjihggcjaaGreatDoor
open Go.RowKit
set_option maxRecDepth 20000
theorem lbeq_comm (a b : List UInt8) : (a == b) = (b == a) := by
  rw [Bool.eq_iff_iff]; simp only [beq_iff_eq]; exact eq_comm
set_option maxHeartbeats 1000000 in
theorem Rvoid_any {w : World} (a : Option Addr) (n c : Nat) (rest : List El) (hn : rest.length = n) (hr : TlvS w (.slice a n c) rest) (hl : n ≤ 65536) :
    Calls Tryz.prog 24 #[.slice a n c] w fun e w' => e = .returned (.bool (vdB rest)) ∧ Below w.heap.size w w' := by
  rcases rest with _ | ⟨y, rest⟩
  · obtain rfl : n = 0 := hn.symm
    unfold vdB
    clear hr
    go_enter Tryz.func24, Tryz.ntmps24
    go_wp2
    go_ret
    exact ⟨rfl, Below.refl _ _⟩
  · obtain ⟨b, off, c', b1, m1, d1, b2, m2, d2, hvv, hc, hbl, e0, e1, e2, e3, e4, sd, sr, ht⟩ := hr.cons
    simp only [Value.slice.injEq] at hvv
    obtain ⟨rfl, hx1, rfl⟩ := hvv
    have n0 : ((n : Int) == 0) = false := by simp; omega
    have n1 : (0 : Int) < (n : Int) := by omega
    have HP : Hid (∀ W : World, Calls Tryz.prog 32 #[.agg #[.int .i64 y.cl, .int .i64 y.tg, .bool y.co, .slice b1 m1 d1, .slice b2 m2 d2], .int .i64 5] W fun e w' => e = .returned (.bool (isP y 5)) ∧ Below W.heap.size W w') := fun W => RIs_any y _ _ 5
    obtain ⟨ycl, ytg, yco, yD, yR⟩ := y
    simp only [] at HP e0 e1 e2 e3 e4
    have HV : Hid (vdB (⟨ycl, ytg, yco, yD, yR⟩ :: rest) = (isP ⟨ycl, ytg, yco, yD, yR⟩ 5 && ((m1 : Int) == 0))) := by
      obtain ⟨_, _, hv, _⟩ := sd
      simp only [Value.slice.injEq] at hv
      obtain ⟨_, rfl, _⟩ := hv
      show _ = _
      unfold vdB
      cases yD with
      | nil => simp
      | cons u l => simp; intro _; omega
    rw [HV.out]
    obtain ⟨p, hp⟩ : ∃ p, isP ⟨ycl, ytg, yco, yD, yR⟩ 5 = p := ⟨_, rfl⟩
    rw [hp] at HP ⊢
    have HC : Hid (∀ W, Below w.heap.size w W → W.cell? ⟨b, off + 3, none⟩ = some (.slice b1 m1 d1)) := fun W h => (h.cell hbl).trans e3
    clear hp HV sd sr ht hr hc hn hx1 hbl hl
    go_enter Tryz.func24, Tryz.ntmps24
    go_wp2_with fail
    refine (HP.out _).mono ?_
    rintro e w3 ⟨rfl, hb3⟩
    have H3 : Hid (Below w.heap.size w w3) := hb3
    have g3 := HC.out _ hb3
    clear hb3 e0 e1 e2 e3 e4 HC HP
    cases p with
    | false =>
      go_wp2
      go_ret
      exact ⟨rfl, H3.out⟩
    | true =>
      go_wp2
      go_ret
      exact ⟨by simp, H3.out⟩
theorem ROid_1 {w : World} : Calls Tryz.prog 25 #[.int .i64 1] w fun e w' => e = .returned (.string ⟨#[49, 46, 51, 46, 49, 52, 46, 51, 46, 50, 46, 50, 54]⟩) ∧ w = w' := by
  go_enter Tryz.func25, Tryz.ntmps25; go_wp2; go_ret; exact ⟨rfl, rfl⟩
theorem ROid_2 {w : World} : Calls Tryz.prog 25 #[.int .i64 2] w fun e w' => e = .returned (.string ⟨#[50, 46, 49, 54, 46, 56, 52, 48, 46, 49, 46, 49, 48, 49, 46, 51, 46, 52, 46, 50, 46, 49]⟩) ∧ w = w' := by
  go_enter Tryz.func25, Tryz.ntmps25; go_wp2; go_ret; exact ⟨rfl, rfl⟩
theorem ROid_3 {w : World} : Calls Tryz.prog 25 #[.int .i64 3] w fun e w' => e = .returned (.string ⟨#[50, 46, 49, 54, 46, 56, 52, 48, 46, 49, 46, 49, 48, 49, 46, 51, 46, 52, 46, 50, 46, 50]⟩) ∧ w = w' := by
  go_enter Tryz.func25, Tryz.ntmps25; go_wp2; go_ret; exact ⟨rfl, rfl⟩
theorem ROid_4 {w : World} : Calls Tryz.prog 25 #[.int .i64 4] w fun e w' => e = .returned (.string ⟨#[50, 46, 49, 54, 46, 56, 52, 48, 46, 49, 46, 49, 48, 49, 46, 51, 46, 52, 46, 50, 46, 51]⟩) ∧ w = w' := by
  go_enter Tryz.func25, Tryz.ntmps25; go_wp2; go_ret; exact ⟨rfl, rfl⟩
set_option maxHeartbeats 4000000 in
theorem RDigest_any {w : World} (x : El) (a1 : Option Addr) (n1 c1 : Nat) (a2 : Option Addr) (n2 c2 : Nat) (hD : Sl .u8 w (.slice a1 n1 c1) x.d) (uD : U8s x.d) (lD : x.d.length ≤ 5000) :
    Calls Tryz.prog 8 #[.agg #[.int .i64 x.cl, .int .i64 x.tg, .bool x.co, .slice a1 n1 c1, .slice a2 n2 c2]] w fun e w' => e = .returned (.tuple #[.int .i64 (digS x), .int .i64 (errD (digS x))]) ∧ Below w.heap.size w w' := by
  have HI : Hid (∀ W, Below w.heap.size w W → Calls Tryz.prog 23 #[.agg #[.int .i64 x.cl, .int .i64 x.tg, .bool x.co, .slice a1 n1 c1, .slice a2 n2 c2]] W fun e w' => RdAns w' e (idS x) ∧ Below W.heap.size W w') := fun W h => Rread_any x a1 n1 c1 a2 n2 c2 (below_sl h hD) uD lD
  obtain ⟨O, hO⟩ : ∃ O, digS x = O := ⟨_, rfl⟩
  obtain ⟨RO, hRO⟩ : ∃ R, idS x = R := ⟨_, rfl⟩
  rw [hO]
  have HQ : Hid (O = digO RO) := by show _ = _; rw [← hO, ← hRO]; rfl
  have HL : Hid (∀ S rest, RO = some (S, rest) → rest.length ≤ 1) := fun S rest h => (idS_good uD lD (hRO.trans h)).1
  rw [hRO] at HI
  obtain ⟨cl, tg, co, D, R⟩ := x
  simp only [] at hD HI ⊢
  clear hD uD lD hO hRO
  go_enter Tryz.func8, Tryz.ntmps8
  go_wp2_with fail
  refine (HI.out _ (al1 _)).mono ?_
  rintro e w1 ⟨ha, hb⟩
  have H1 : Hid (Below w.heap.size w w1) := below_via (al1 _) hb (Nat.le_refl _)
  clear hb HI
  cases RO with
  | none =>
    obtain ⟨s, a, n, c, rfl⟩ := ha
    have HO : Hid (O = 0) := HQ.out
    clear HQ HL
    go_wp2
    go_ret2
    rw [HO.out]
    exact ⟨rfl, H1.out⟩
  | some SR =>
    obtain ⟨S, rest⟩ := SR
    obtain ⟨a, n, c, rfl, hn, hr⟩ := ha
    have hl := HL.out S rest rfl
    have HO : Hid (O = if vdB rest = true then dgN S else 0) := HQ.out
    clear HQ HL
    obtain ⟨vb, hvb⟩ : ∃ v, vdB rest = v := ⟨_, rfl⟩
    have HW : Hid (Calls Tryz.prog 24 #[.slice a n c] w1 fun e w' => e = .returned (.bool vb) ∧ Below w1.heap.size w1 w') := by rw [← hvb]; exact Rvoid_any a n c rest hn hr (by omega)
    rw [hvb] at HO
    clear hr hn hl hvb
    go_wp2_with fail
    refine HW.out.mono ?_
    rintro e w3 ⟨rfl, hb3⟩
    have HB : Hid (Below w.heap.size w w3) := below_via H1.out hb3 (Nat.le_refl _)
    clear hb3 HW
    cases vb with
    | false =>
      have HD : Hid (O = 0) := HO.out
      clear HO
      go_wp2
      go_ret2
      rw [HD.out]
      exact ⟨rfl, HB.out⟩
    | true =>
      replace HO : Hid (O = dgN S) := HO.out
      cases h0 : (S.toList == [49, 46, 51, 46, 49, 52, 46, 51, 46, 50, 46, 50, 54]) with
      | true =>
        have HD : Hid (O = 1) := by show _ = _; rw [HO.out]; unfold dgN; simp [h0]
        clear HO
        have g0 := (lbeq_comm _ _).trans h0
        clear h0
        go_wp2_with fail
        refine wp_loop_rounds 1 ?_
        rw [rounds_succ]
        go_wp2_with (go_at_call 25; refine ROid_1.mono ?_; rintro e w9 ⟨rfl, rfl⟩)
        go_ret2
        rw [HD.out]
        exact ⟨rfl, HB.out⟩
      | false =>
        cases h1 : (S.toList == [50, 46, 49, 54, 46, 56, 52, 48, 46, 49, 46, 49, 48, 49, 46, 51, 46, 52, 46, 50, 46, 49]) with
        | true =>
          have HD : Hid (O = 2) := by show _ = _; rw [HO.out]; unfold dgN; simp [h0, h1]
          clear HO
          have g0 := (lbeq_comm _ _).trans h0
          have g1 := (lbeq_comm _ _).trans h1
          clear h0 h1
          go_wp2_with fail
          refine wp_loop_rounds 2 ?_
          rw [rounds_succ]
          go_wp2_with (go_at_call 25; refine ROid_1.mono ?_; rintro e w9 ⟨rfl, rfl⟩)
          rw [rounds_succ]
          go_wp2_with (go_at_call 25; refine ROid_2.mono ?_; rintro e w9 ⟨rfl, rfl⟩)
          go_ret2
          rw [HD.out]
          exact ⟨rfl, HB.out⟩
        | false =>
          cases h2 : (S.toList == [50, 46, 49, 54, 46, 56, 52, 48, 46, 49, 46, 49, 48, 49, 46, 51, 46, 52, 46, 50, 46, 50]) with
          | true =>
            have HD : Hid (O = 3) := by show _ = _; rw [HO.out]; unfold dgN; simp [h0, h1, h2]
            clear HO
            have g0 := (lbeq_comm _ _).trans h0
            have g1 := (lbeq_comm _ _).trans h1
            have g2 := (lbeq_comm _ _).trans h2
            clear h0 h1 h2
            go_wp2_with fail
            refine wp_loop_rounds 3 ?_
            rw [rounds_succ]
            go_wp2_with (go_at_call 25; refine ROid_1.mono ?_; rintro e w9 ⟨rfl, rfl⟩)
            rw [rounds_succ]
            go_wp2_with (go_at_call 25; refine ROid_2.mono ?_; rintro e w9 ⟨rfl, rfl⟩)
            rw [rounds_succ]
            go_wp2_with (go_at_call 25; refine ROid_3.mono ?_; rintro e w9 ⟨rfl, rfl⟩)
            go_ret2
            rw [HD.out]
            exact ⟨rfl, HB.out⟩
          | false =>
            cases h3 : (S.toList == [50, 46, 49, 54, 46, 56, 52, 48, 46, 49, 46, 49, 48, 49, 46, 51, 46, 52, 46, 50, 46, 51]) with
            | true =>
              have HD : Hid (O = 4) := by show _ = _; rw [HO.out]; unfold dgN; simp [h0, h1, h2, h3]
              clear HO
              have g0 := (lbeq_comm _ _).trans h0
              have g1 := (lbeq_comm _ _).trans h1
              have g2 := (lbeq_comm _ _).trans h2
              have g3 := (lbeq_comm _ _).trans h3
              clear h0 h1 h2 h3
              go_wp2_with fail
              refine wp_loop_rounds 4 ?_
              rw [rounds_succ]
              go_wp2_with (go_at_call 25; refine ROid_1.mono ?_; rintro e w9 ⟨rfl, rfl⟩)
              rw [rounds_succ]
              go_wp2_with (go_at_call 25; refine ROid_2.mono ?_; rintro e w9 ⟨rfl, rfl⟩)
              rw [rounds_succ]
              go_wp2_with (go_at_call 25; refine ROid_3.mono ?_; rintro e w9 ⟨rfl, rfl⟩)
              rw [rounds_succ]
              go_wp2_with (go_at_call 25; refine ROid_4.mono ?_; rintro e w9 ⟨rfl, rfl⟩)
              go_ret2
              rw [HD.out]
              exact ⟨rfl, HB.out⟩
            | false =>
              have HD : Hid (O = 0) := by show _ = _; rw [HO.out]; unfold dgN; simp [h0, h1, h2, h3]
              clear HO
              have g0 := (lbeq_comm _ _).trans h0
              have g1 := (lbeq_comm _ _).trans h1
              have g2 := (lbeq_comm _ _).trans h2
              have g3 := (lbeq_comm _ _).trans h3
              clear h0 h1 h2 h3
              go_wp2_with fail
              refine wp_loop_rounds 5 ?_
              rw [rounds_succ]
              go_wp2_with (go_at_call 25; refine ROid_1.mono ?_; rintro e w9 ⟨rfl, rfl⟩)
              rw [rounds_succ]
              go_wp2_with (go_at_call 25; refine ROid_2.mono ?_; rintro e w9 ⟨rfl, rfl⟩)
              rw [rounds_succ]
              go_wp2_with (go_at_call 25; refine ROid_3.mono ?_; rintro e w9 ⟨rfl, rfl⟩)
              rw [rounds_succ]
              go_wp2_with (go_at_call 25; refine ROid_4.mono ?_; rintro e w9 ⟨rfl, rfl⟩)
              rw [rounds_succ]
              go_wp2
              go_ret2
              rw [HD.out]
              exact ⟨rfl, HB.out⟩
end Go.Proofs.YtillkhjihggcjaaGreatDoor
/-
  Der: the reference's Int.
-/
namespace Go.Proofs.YtillkhjihggcjaaGreatDoor
open Go.RowKit
set_option maxRecDepth 20000 in
set_option maxHeartbeats 4000000 in
theorem RInt_any {w : World} (v : Value) (X : List Int) (hX : Sl .u8 w v X) (uX : U8s X) (hl : X.length ≤ 16384) :
    Calls Tryz.prog 54 #[v] w fun e w' => e = .returned (.tuple #[.int .i64 (intV X), .int .i64 (intE X)]) ∧ w = w' := by
  have HI : Hid (Calls Tryz.prog 60 #[v] w fun e w' => e = .returned (.bool (intOk X)) ∧ w = w') := whole_any v X hX uX hl
  obtain ⟨a, c, rfl, hc, hx⟩ := hX
  obtain ⟨n, hn⟩ : ∃ n, X.length = n := ⟨_, rfl⟩
  rw [hn] at HI hc ⊢
  cases hok : intOk X with
  | false =>
    have HV : Hid (intV X = 0 ∧ intE X = 6) := ⟨by unfold intV; rw [hok]; simp, by unfold intE; rw [hok]; simp⟩
    rw [hok] at HI
    clear hx hok
    go_enter Tryz.func54, Tryz.ntmps54
    go_wp2_with fail
    refine HI.out.mono ?_
    rintro e w1 ⟨rfl, rfl⟩
    go_wp2
    go_ret2
    exact ⟨by rw [HV.out.1, HV.out.2]; rfl, rfl⟩
  | true =>
    have hne := intOk_ne hok
    rw [hok] at HI
    rcases hx with hx | ⟨b, off, rfl, hb, hr⟩
    · rw [hx] at hne; simp at hne
    by_cases hbig : 8 < n
    · have HV : Hid (intV X = 0 ∧ intE X = 3) := ⟨by unfold intV; rw [if_neg (fun h => by have := h.2; omega)], by unfold intE; rw [hok, hn]; simp [hbig]⟩
      have hbI : (8 : Int) < (n : Int) := by omega
      clear hr hok
      go_enter Tryz.func54, Tryz.ntmps54
      go_wp2_with fail
      refine HI.out.mono ?_
      rintro e w1 ⟨rfl, rfl⟩
      go_wp2
      go_ret2
      exact ⟨by rw [HV.out.1, HV.out.2]; rfl, rfl⟩
    · have HV : Hid (intV X = iv X n ∧ intE X = 0) := ⟨by unfold intV; rw [if_pos ⟨hok, by omega⟩, hn], by unfold intE; rw [hok, hn]; simp [hbig]⟩
      have hbI : ¬ (8 : Int) < (n : Int) := by omega
      rw [hn] at hne
      have hneI : (1 : Int) ≤ (n : Int) := by omega
      have hneI2 : (0 : Int) < (n : Int) := by omega
      obtain ⟨x, hx⟩ : ∃ x, X.getD 0 0 = x := ⟨_, rfl⟩
      have cx : w.cell? ⟨b, off, none⟩ = some (.int .u8 x) := by have := hr 0 (by omega); rw [hx] at this; exact this
      have HX : Hid (Rd .u8 w b off X ∧ U8s X ∧ X.length = n ∧ X.getD 0 0 = x) := ⟨hr, uX, hn, hx⟩
      have h128 : 128 ≤ x ∨ ¬ 128 ≤ x := by omega
      obtain ⟨s0, hs0⟩ : ∃ s0, iv X 0 % 18446744073709551616 = s0 := ⟨_, rfl⟩
      have HS0 : Hid (iv X 0 % 18446744073709551616 = s0) := hs0
      have HSV : Hid ((128 ≤ x → s0 = 18446744073709551615) ∧ (¬ 128 ≤ x → s0 = 0)) := by
        have h9 : iv X 0 = if 128 ≤ X.getD 0 0 then -1 else 0 := rfl
        rw [hx] at h9
        refine ⟨fun h => ?_, fun h => ?_⟩
        · rw [if_pos h] at h9; rw [← hs0, h9]; decide
        · rw [if_neg h] at h9; rw [← hs0, h9]; decide
      clear hr hok uX hx hl hs0
      go_enter Tryz.func54, Tryz.ntmps54
      go_wp2_with fail
      refine HI.out.mono ?_
      rintro e w1 ⟨rfl, rfl⟩
      rcases h128 with h128 | h128
      all_goals
        go_wp2_with fail
        go_loopw [4, 5] (fun vv kv wr => ∃ (i : Nat) (u : Int), vv = .int .u64 u ∧ kv = .int .i64 i ∧ i ≤ n ∧ iv X i % 18446744073709551616 = u ∧ w = wr) (fun _ kv _ => n - (intOf kv).toNat)
        case atStart => exact ⟨0, s0, by first | rw [HSV.out.1 h128] | rw [HSV.out.2 h128], rfl, by omega, HS0.out, rfl⟩
        case round =>
          obtain ⟨i, u, rfl, rfl, hi, hu, rfl⟩ := hrel
          have HU : Hid (iv X i % 18446744073709551616 = u) := hu
          clear hu
          by_cases hlt : i < n
          · have l1 : (i : Int) < (n : Int) := by omega
            obtain ⟨y, hy⟩ : ∃ y, X.getD i 0 = y := ⟨_, rfl⟩
            have cy : w.cell? ⟨b, off + i, none⟩ = some (.int .u8 y) := by
              have := HX.out.1 i (by have := HX.out.2.2.1; omega)
              rw [hy] at this; exact this
            have uy := HX.out.2.1.at i
            rw [hy] at uy
            obtain ⟨y0, y1⟩ := uy
            obtain ⟨m, hm⟩ : ∃ m, IntKind.u64.wrap (u * 256) = m := ⟨_, rfl⟩
            obtain ⟨u2, hu2⟩ : ∃ u2, IntKind.u64.wrap (m + y) = u2 := ⟨_, rfl⟩
            have HU2 : Hid (iv X (i + 1) % 18446744073709551616 = u2) := by
              show (256 * iv X i + X.getD i 0) % 18446744073709551616 = u2
              have h1 := HU.out
              rw [IntKind.wrap_u64] at hm hu2
              rw [hy]
              omega
            clear hy
            go_wp2
            go_roundw
            case rel => exact ⟨i + 1, u2, rfl, by go_num, by omega, HU2.out, trivial⟩
            case measure => simp [intOf]; omega
          · obtain rfl : i = n := by omega
            have l1 : ¬ (i : Int) < (i : Int) := by omega
            have HW : Hid (wrap64 u = iv X i ∧ IntKind.i64.wrap u = iv X i) := by
              have h1 := HU.out
              obtain ⟨d, hd⟩ : ∃ d, i = d + 1 := ⟨i - 1, by omega⟩
              have h2 := iv_range HX.out.2.1 d (by omega)
              rw [← hd] at h2
              refine ⟨by unfold wrap64; omega, by rw [IntKind.wrap_i64]; omega⟩
            go_wp2
            go_ret2
            exact ⟨by rw [HV.out.1, HV.out.2]; first | rw [HW.out.1]; rfl | rw [HW.out.2]; rfl, rfl⟩
end Go.Proofs.YtillkhjihggcjaaGreatDoor
/-
  Alg: the reference's one, pss.
-/
namespace Go.Proofs.YtillkhjihggcjaaGreatDoor
open Go.RowKit
set_option maxRecDepth 20000
def OneB (w : World) (e : Ending) (o : El × Int) : Prop :=
  ∃ a1 n1 c1 a2 n2 c2, e = .returned (.tuple #[.agg #[.int .i64 o.1.cl, .int .i64 o.1.tg, .bool o.1.co, .slice a1 n1 c1, .slice a2 n2 c2], .bool (o.2 == 0)]) ∧ Sl .u8 w (.slice a1 n1 c1) o.1.d ∧ Sl .u8 w (.slice a2 n2 c2) o.1.r
theorem five_nn {cl tg : Int} {co : Bool} {a1 a2 : Option Addr} {n1 c1 n2 c2 : Nat} : ∀ x ∈ [Value.int .i64 cl, .int .i64 tg, .bool co, .slice a1 n1 c1, .slice a2 n2 c2], ∀ m, x ≠ .int .u8 m := by
  intro x hx m h
  simp only [List.mem_cons, List.not_mem_nil, or_false] at hx
  rcases hx with rfl | rfl | rfl | rfl | rfl <;> cases h
set_option maxHeartbeats 2000000 in
theorem Rone_any {w : World} (x : El) (a1 : Option Addr) (n1 c1 : Nat) (a2 : Option Addr) (n2 c2 : Nat) (hD : Sl .u8 w (.slice a1 n1 c1) x.d) (uD : U8s x.d) (lD : x.d.length ≤ 5000) :
    Calls Tryz.prog 53 #[.agg #[.int .i64 x.cl, .int .i64 x.tg, .bool x.co, .slice a1 n1 c1, .slice a2 n2 c2]] w fun e w' => OneB w' e (oneS (splitS x.d)) ∧ Below w.heap.size w w' := by
  have HI : Hid (∀ W, Below w.heap.size w W → Calls Tryz.prog 18 #[.slice a1 n1 c1] W fun e w' => OneOutR W.heap.size w' e (oneS (splitS x.d)) ∧ Below W.heap.size W w') := fun W h => ROne_any _ x.d (below_sl h hD) uD (by omega)
  obtain ⟨⟨y, er⟩, hye⟩ : ∃ ye, oneS (splitS x.d) = ye := ⟨_, rfl⟩
  rw [hye] at HI ⊢
  obtain ⟨cl, tg, co, D, R⟩ := x
  obtain ⟨ycl, ytg, yco, yD, yR⟩ := y
  simp only [] at hD HI ⊢
  clear hD uD lD hye
  have HZ : Hid (∀ W, Below w.heap.size w W → Blk 24 W (w.heap.size + 1) [.int .i64 0, .int .i64 0, .bool false, .slice none 0 0, .slice none 0 0] → ∀ (d0 d1 : Option Addr) (e0 e1 f0 f1 : Nat), Sl .u8 W (.slice d0 e0 f0) yD → Sl .u8 W (.slice d1 e1 f1) yR → Blk 24 (((((W.setCell ⟨w.heap.size + 1, 0, none⟩ (.int .i64 ycl)).setCell ⟨w.heap.size + 1, 1, none⟩ (.int .i64 ytg)).setCell ⟨w.heap.size + 1, 2, none⟩ (.bool yco)).setCell ⟨w.heap.size + 1, 3, none⟩ (.slice d0 e0 f0)).setCell ⟨w.heap.size + 1, 4, none⟩ (.slice d1 e1 f1)) (w.heap.size + 1) [.int .i64 ycl, .int .i64 ytg, .bool yco, .slice d0 e0 f0, .slice d1 e1 f1] ∧ Sl .u8 (((((W.setCell ⟨w.heap.size + 1, 0, none⟩ (.int .i64 ycl)).setCell ⟨w.heap.size + 1, 1, none⟩ (.int .i64 ytg)).setCell ⟨w.heap.size + 1, 2, none⟩ (.bool yco)).setCell ⟨w.heap.size + 1, 3, none⟩ (.slice d0 e0 f0)).setCell ⟨w.heap.size + 1, 4, none⟩ (.slice d1 e1 f1)) (.slice d0 e0 f0) yD ∧ Sl .u8 (((((W.setCell ⟨w.heap.size + 1, 0, none⟩ (.int .i64 ycl)).setCell ⟨w.heap.size + 1, 1, none⟩ (.int .i64 ytg)).setCell ⟨w.heap.size + 1, 2, none⟩ (.bool yco)).setCell ⟨w.heap.size + 1, 3, none⟩ (.slice d0 e0 f0)).setCell ⟨w.heap.size + 1, 4, none⟩ (.slice d1 e1 f1)) (.slice d1 e1 f1) yR ∧ Below w.heap.size w (((((W.setCell ⟨w.heap.size + 1, 0, none⟩ (.int .i64 ycl)).setCell ⟨w.heap.size + 1, 1, none⟩ (.int .i64 ytg)).setCell ⟨w.heap.size + 1, 2, none⟩ (.bool yco)).setCell ⟨w.heap.size + 1, 3, none⟩ (.slice d0 e0 f0)).setCell ⟨w.heap.size + 1, 4, none⟩ (.slice d1 e1 f1))) := by
    intro W hW hB d0 d1 e0 e1 f0 f1 s0 s1
    have hU := ((((Upd.set W (w.heap.size + 1) 0 (.int .i64 ycl)).trans (Upd.set _ _ 1 (.int .i64 ytg))).trans (Upd.set _ _ 2 (.bool yco))).trans (Upd.set _ _ 3 (.slice d0 e0 f0))).trans (Upd.set _ _ 4 (.slice d1 e1 f1))
    exact ⟨((((hB.set 0 (.int .i64 ycl)).set 1 (.int .i64 ytg)).set 2 (.bool yco)).set 3 (.slice d0 e0 f0)).set 4 (.slice d1 e1 f1), sl_upA s0 hB five_nn hU, sl_upA s1 hB five_nn hU, hU.below hW hW.size (by omega)⟩
  go_enter Tryz.func53, Tryz.ntmps53
  go_wp2_with fail
  refine (HI.out _ (below_via (al1 _) (al1 _) (Nat.le_refl _))).mono ?_
  rintro e w1 ⟨⟨b1, m1, d1, b2, m2, d2, rfl, hd, hr⟩, hb⟩
  have H1 : Hid (Below w.heap.size w w1 ∧ Blk 24 w1 (w.heap.size + 1) [.int .i64 0, .int .i64 0, .bool false, .slice none 0 0, .slice none 0 0] ∧ Sl .u8 w1 (.slice b1 m1 d1) yD ∧ Sl .u8 w1 (.slice b2 m2 d2) yR) := ⟨below_via (below_via (al1 _) (al1 _) (Nat.le_refl _)) hb (Nat.le_refl _), below_blk hb (by simp) (by
    have := Blk.new 24 (w.alloc (.cells #[.int .i64 cl, .int .i64 tg, .bool co, .slice a1 n1 c1, .slice a2 n2 c2] 24)) [.int .i64 0, .int .i64 0, .bool false, .slice none 0 0, .slice none 0 0]
    rw [World.size_alloc] at this
    exact this), hd.sl, hr.sl⟩
  clear hb HI hd hr
  simp only []
  go_upto_region 2 with (fail)
  refine wp_gen (fun W => Blk 24 W w1.heap.size [.int .i64 ycl, .int .i64 ytg, .bool yco, .slice b1 m1 d1, .slice b2 m2 d2] ∧ Below w1.heap.size w1 W) ⟨Blk.new _ w1 _, al1 _⟩ ?_
  rintro W2 ⟨hB, hBw⟩
  have H2 : Hid (Below w.heap.size w W2 ∧ Blk 24 W2 (w.heap.size + 1) [.int .i64 0, .int .i64 0, .bool false, .slice none 0 0, .slice none 0 0] ∧ Sl .u8 W2 (.slice b1 m1 d1) yD ∧ Sl .u8 W2 (.slice b2 m2 d2) yR) := ⟨below_via H1.out.1 hBw (Nat.le_refl _), below_blk hBw H1.out.2.1.lt H1.out.2.1, below_sl hBw H1.out.2.2.1, below_sl hBw H1.out.2.2.2⟩
  have i0 : W2.cell? ⟨w1.heap.size, 0, none⟩ = some (.int .i64 ycl) := hB.cell 0
  have i1 : W2.cell? ⟨w1.heap.size, 1, none⟩ = some (.int .i64 ytg) := hB.cell 1
  have i2 : W2.cell? ⟨w1.heap.size, 2, none⟩ = some (.bool yco) := hB.cell 2
  have i3 : W2.cell? ⟨w1.heap.size, 3, none⟩ = some (.slice b1 m1 d1) := hB.cell 3
  have i4 : W2.cell? ⟨w1.heap.size, 4, none⟩ = some (.slice b2 m2 d2) := hB.cell 4
  have z0 : W2.cell? ⟨w.heap.size + 1, 0, none⟩ = some (.int .i64 0) := H2.out.2.1.cell 0
  have z1 : W2.cell? ⟨w.heap.size + 1, 1, none⟩ = some (.int .i64 0) := H2.out.2.1.cell 1
  have z2 : W2.cell? ⟨w.heap.size + 1, 2, none⟩ = some (.bool false) := H2.out.2.1.cell 2
  have z3 : W2.cell? ⟨w.heap.size + 1, 3, none⟩ = some (.slice none 0 0) := H2.out.2.1.cell 3
  have z4 : W2.cell? ⟨w.heap.size + 1, 4, none⟩ = some (.slice none 0 0) := H2.out.2.1.cell 4
  have f0 := H2.out.2.1.frozen 0
  have f1 := H2.out.2.1.frozen 1
  have f2 := H2.out.2.1.frozen 2
  have f3 := H2.out.2.1.frozen 3
  have f4 := H2.out.2.1.frozen 4
  clear hB hBw
  go_wp2
  have hz := HZ.out W2 H2.out.1 H2.out.2.1 b1 b2 m1 m2 d1 d2 H2.out.2.2.1 H2.out.2.2.2
  exact bodyPost_ret (results_blk2 rfl rfl hz.1 Tryz.underlying24 rfl Tryz.sizeT rfl) rfl ⟨⟨b1, m1, d1, b2, m2, d2, rfl, hz.2.1, hz.2.2.1⟩, hz.2.2.2⟩
def PsB (e : Ending) : Option Al → Prop
  | none => e = .returned (.tuple #[.agg #[.int .i64 0, .int .i64 0, .int .i64 0, .int .i64 0], .bool false])
  | some a => e = .returned (.tuple #[.agg #[.int .i64 a.k, .int .i64 a.d, .int .i64 a.m, .int .i64 a.s], .bool true])
/-- What stands while the parts of the second way are read. -/
def PS (w W : World) (A : Al) (l : Value) (L : List El) : Prop :=
  Below w.heap.size w W ∧ Blk 32 W (w.heap.size + 1) [.int .i64 0, .int .i64 0, .int .i64 0, .int .i64 0] ∧ Blk 32 W (w.heap.size + 1 + 1) (alC A) ∧ TlvS W l L ∧ ∀ b off n c, l = .slice (some ⟨b, off, none⟩) n c → w.heap.size + 3 ≤ b
theorem PS.below {w W W' : World} {A : Al} {l : Value} {L : List El} (h : PS w W A l L) (hb : Below W.heap.size W W') : PS w W' A l L :=
  ⟨below_via h.1 hb (Nat.le_refl _), below_blk hb h.2.1.lt h.2.1, below_blk hb h.2.2.1.lt h.2.2.1, h.2.2.2.1.below hb, h.2.2.2.2⟩
theorem PS.put {w W : World} {A A' : Al} {l : Value} {L : List El} (h : PS w W A l L) (i : Nat) (n : Int) (hs : (alC A).set i (.int .i64 n) = alC A') : PS w (W.setCell ⟨w.heap.size + 1 + 1, i, none⟩ (.int .i64 n)) A' l L := by
  have hU := Upd.set W (w.heap.size + 1 + 1) i (.int .i64 n)
  refine ⟨hU.below h.1 h.1.size (by omega), hU.blk h.2.1 (by omega), ?_, h.2.2.2.1.upd h.2.2.1 hU (fun b o n c hv => by have := h.2.2.2.2 b o n c hv; omega) alC_nn, h.2.2.2.2⟩
  rw [← hs]
  exact h.2.2.1.set i _
theorem PS.cels {w W : World} {A : Al} {l : Value} {L : List El} (h : PS w W A l L) : (W.cell? ⟨w.heap.size + 1, 0, none⟩ = some (.int .i64 0) ∧ W.cell? ⟨w.heap.size + 1, 1, none⟩ = some (.int .i64 0) ∧ W.cell? ⟨w.heap.size + 1, 2, none⟩ = some (.int .i64 0) ∧ W.cell? ⟨w.heap.size + 1, 3, none⟩ = some (.int .i64 0)) ∧ W.frozen? ⟨w.heap.size + 1, 0, none⟩ = false ∧ W.frozen? ⟨w.heap.size + 1, 1, none⟩ = false ∧ W.frozen? ⟨w.heap.size + 1, 2, none⟩ = false ∧ W.frozen? ⟨w.heap.size + 1, 3, none⟩ = false :=
  ⟨⟨h.2.1.cell 0, h.2.1.cell 1, h.2.1.cell 2, h.2.1.cell 3⟩, h.2.1.frozen 0, h.2.1.frozen 1, h.2.1.frozen 2, h.2.1.frozen 3⟩
theorem PS.end {w W : World} {A : Al} {l : Value} {L : List El} (h : PS w W A l L) (a b c d : Int) : Blk 32 ((((W.setCell ⟨w.heap.size + 1, 0, none⟩ (.int .i64 a)).setCell ⟨w.heap.size + 1, 1, none⟩ (.int .i64 b)).setCell ⟨w.heap.size + 1, 2, none⟩ (.int .i64 c)).setCell ⟨w.heap.size + 1, 3, none⟩ (.int .i64 d)) (w.heap.size + 1) [.int .i64 a, .int .i64 b, .int .i64 c, .int .i64 d] ∧ Below w.heap.size w ((((W.setCell ⟨w.heap.size + 1, 0, none⟩ (.int .i64 a)).setCell ⟨w.heap.size + 1, 1, none⟩ (.int .i64 b)).setCell ⟨w.heap.size + 1, 2, none⟩ (.int .i64 c)).setCell ⟨w.heap.size + 1, 3, none⟩ (.int .i64 d)) :=
  ⟨(((h.2.1.set 0 (.int .i64 a)).set 1 (.int .i64 b)).set 2 (.int .i64 c)).set 3 (.int .i64 d), ((((Upd.set W (w.heap.size + 1) 0 (.int .i64 a)).trans (Upd.set _ _ 1 (.int .i64 b))).trans (Upd.set _ _ 2 (.int .i64 c))).trans (Upd.set _ _ 3 (.int .i64 d))).below h.1 h.1.size (by omega)⟩
end Go.Proofs.YtillkhjihggcjaaGreatDoor
