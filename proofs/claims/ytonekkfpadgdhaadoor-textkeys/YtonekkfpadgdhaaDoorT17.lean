/-
  Text: the reference's whole.
-/
import Derived.Test.YtonekkfpadgdhaaDoorT13
set_option linter.unusedVariables false
namespace Go.Proofs.YtonekkfpadgdhaaDoor
open Go.RowKit
/-- A byte behind a character's first one. -/
abbrev Cn (b : Nat) : Prop := 128 ≤ b ∧ b < 192
def whN (n b0 b1 b2 b3 : Nat) : Nat :=
  if b0 < 128 then 1
  else if 192 ≤ b0 ∧ b0 < 224 then (if 2 ≤ n ∧ Cn b1 ∧ 128 ≤ (b0 - 192) * 64 + (b1 - 128) then 2 else 0)
  else if 224 ≤ b0 ∧ b0 < 240 then (if 3 ≤ n ∧ Cn b1 ∧ Cn b2 ∧ 2048 ≤ (b0 - 224) * 4096 + (b1 - 128) * 64 + (b2 - 128) ∧ ¬ (55296 ≤ (b0 - 224) * 4096 + (b1 - 128) * 64 + (b2 - 128) ∧ (b0 - 224) * 4096 + (b1 - 128) * 64 + (b2 - 128) ≤ 57343) then 3 else 0)
  else if 240 ≤ b0 ∧ b0 < 248 then (if 4 ≤ n ∧ Cn b1 ∧ Cn b2 ∧ Cn b3 ∧ 65536 ≤ (b0 - 240) * 262144 + (b1 - 128) * 4096 + (b2 - 128) * 64 + (b3 - 128) ∧ (b0 - 240) * 262144 + (b1 - 128) * 4096 + (b2 - 128) * 64 + (b3 - 128) ≤ 1114111 then 4 else 0)
  else 0
set_option maxHeartbeats 2000000 in
theorem wh_dec (n b0 b1 b2 b3 : Nat) (h0 : b0 < 256) (h1 : b1 < 256) (h2 : b2 < 256) (h3 : b3 < 256) : (if (Lib.decodeN n b0 b1 b2 b3).1 = 65533 ∧ (Lib.decodeN n b0 b1 b2 b3).2 = 1 then 0 else (Lib.decodeN n b0 b1 b2 b3).2) = whN n b0 b1 b2 b3 := by
  obtain ⟨d, hd⟩ : ∃ d, Lib.decodeN n b0 b1 b2 b3 = d := ⟨_, rfl⟩
  rw [hd]
  have bad : d = (65533, 1) → (if d.1 = 65533 ∧ d.2 = 1 then 0 else d.2) = 0 := by rintro rfl; rfl
  have good : ∀ r k, d = (r, k) → k ≠ 1 ∨ r < 256 → (if d.1 = 65533 ∧ d.2 = 1 then 0 else d.2) = k := by
    rintro r k rfl h
    rw [if_neg (by simp only; omega)]
  unfold Lib.decodeN at hd
  repeat' split at hd
  all_goals first
    | (rw [good _ _ hd.symm (by omega)]; unfold whN; (repeat' split) <;> omega)
    | (rw [bad hd.symm]; unfold whN; (repeat' split) <;> omega)
/-- The bytes of a slice from place i on. -/
structure At4 (w : World) (b off i N : Nat) (x0 x1 x2 x3 : Nat) : Prop where
  c0 : w.cell? ⟨b, off + i, none⟩ = some (.int .u8 x0)
  c1 : i + 1 < N → w.cell? ⟨b, off + (i + 1), none⟩ = some (.int .u8 x1)
  c2 : i + 2 < N → w.cell? ⟨b, off + (i + 2), none⟩ = some (.int .u8 x2)
  c3 : i + 3 < N → w.cell? ⟨b, off + (i + 3), none⟩ = some (.int .u8 x3)
set_option maxHeartbeats 4000000 in
set_option maxRecDepth 100000 in
theorem whole_low {w : World} (b off c i N x0 x1 x2 x3 : Nat) (hA : At4 w b off i N x0 x1 x2 x3) (hi : i < N) (hc : N ≤ c) (hN : N ≤ 100000) (h0 : x0 < 256) (h1 : x1 < 256) (h2 : x2 < 256) (h3 : x3 < 256) (hl : x0 < 128) :
    Calls Tryd.prog 43 #[.slice (some ⟨b, off, none⟩) N c, .int .i64 i] w fun e w' => e = .returned (.int .i64 (whN (N - i) x0 x1 x2 x3)) ∧ w = w' := by
  have c0 := hA.c0
  have iz : (i : Int) < (N : Int) := by omega
  have cz : (N : Int) ≤ (c : Int) := by omega
  have Nz : (N : Int) ≤ 100000 := by omega
  have z0 : (x0 : Int) < 128 := by omega
  have HW : Hid (whN (N - i) x0 x1 x2 x3 = 1) := by
    show _ = _
    unfold whN
    repeat' split
    all_goals omega
  go_enter Tryd.func43, Tryd.ntmps43
  go_wp2
  go_ret
  exact ⟨by rw [HW.out]; rfl, rfl⟩
set_option maxHeartbeats 4000000 in
set_option maxRecDepth 100000 in
theorem whole_none {w : World} (b off c i N x0 x1 x2 x3 : Nat) (hA : At4 w b off i N x0 x1 x2 x3) (hi : i < N) (hc : N ≤ c) (hN : N ≤ 100000) (h0 : x0 < 256) (h1 : x1 < 256) (h2 : x2 < 256) (h3 : x3 < 256) (hl : 128 ≤ x0) (hu : x0 < 192 ∨ 248 ≤ x0) :
    Calls Tryd.prog 43 #[.slice (some ⟨b, off, none⟩) N c, .int .i64 i] w fun e w' => e = .returned (.int .i64 (whN (N - i) x0 x1 x2 x3)) ∧ w = w' := by
  have c0 := hA.c0
  have iz : (i : Int) < (N : Int) := by omega
  have cz : (N : Int) ≤ (c : Int) := by omega
  have Nz : (N : Int) ≤ 100000 := by omega
  have z0 : ¬ (x0 : Int) < 128 := by omega
  rcases hu with hu | hu
  · have z1 : ¬ (192 : Int) ≤ (x0 : Int) := by omega
    have z2 : ¬ (224 : Int) ≤ (x0 : Int) := by omega
    have z3 : ¬ (240 : Int) ≤ (x0 : Int) := by omega
    have HW : Hid (whN (N - i) x0 x1 x2 x3 = 0) := by
      show _ = _
      unfold whN
      repeat' split
      all_goals omega
    go_enter Tryd.func43, Tryd.ntmps43
    go_wp2
    go_ret
    exact ⟨by rw [HW.out]; rfl, rfl⟩
  · have z1 : (192 : Int) ≤ (x0 : Int) := by omega
    have y1 : ¬ (x0 : Int) < 224 := by omega
    have z2 : (224 : Int) ≤ (x0 : Int) := by omega
    have y2 : ¬ (x0 : Int) < 240 := by omega
    have z3 : (240 : Int) ≤ (x0 : Int) := by omega
    have y3 : ¬ (x0 : Int) < 248 := by omega
    have HW : Hid (whN (N - i) x0 x1 x2 x3 = 0) := by
      show _ = _
      unfold whN
      repeat' split
      all_goals omega
    go_enter Tryd.func43, Tryd.ntmps43
    go_wp2
    go_ret
    exact ⟨by rw [HW.out]; rfl, rfl⟩
set_option maxHeartbeats 4000000 in
set_option maxRecDepth 100000 in
theorem whole_2 {w : World} (b off c i N x0 x1 x2 x3 : Nat) (hA : At4 w b off i N x0 x1 x2 x3) (hi : i < N) (hc : N ≤ c) (hN : N ≤ 100000) (h0 : x0 < 256) (h1 : x1 < 256) (h2 : x2 < 256) (h3 : x3 < 256) (hl : 192 ≤ x0) (hu : x0 < 224) :
    Calls Tryd.prog 43 #[.slice (some ⟨b, off, none⟩) N c, .int .i64 i] w fun e w' => e = .returned (.int .i64 (whN (N - i) x0 x1 x2 x3)) ∧ w = w' := by
  have c0 := hA.c0
  have iz : (i : Int) < (N : Int) := by omega
  have cz : (N : Int) ≤ (c : Int) := by omega
  have Nz : (N : Int) ≤ 100000 := by omega
  have z0 : ¬ (x0 : Int) < 128 := by omega
  have p192 : (192 : Int) ≤ (x0 : Int) := by omega
  have q192 : (x0 : Int) < 224 := by omega
  by_cases hs : i + 2 ≤ N
  · have sz : ¬ (N : Int) < (i : Int) + 2 := by omega
    have k1 := hA.c1 (by omega)
    have y1 : (i : Int) + 1 < (N : Int) := by omega
    have t1 : ((i : Int) + 1).toNat = i + 1 := by omega
    by_cases lo1 : x1 < 128
    · have lz1 : (x1 : Int) < 128 := by omega
      have HW : Hid (whN (N - i) x0 x1 x2 x3 = 0) := by
        show _ = _
        unfold whN
        repeat' split
        all_goals omega
      go_enter Tryd.func43, Tryd.ntmps43
      go_wp2_with fail
      refine wp_loop_rounds 1 ?_
      rw [rounds_succ]
      go_wp2
      go_ret
      exact ⟨by rw [HW.out]; rfl, rfl⟩
    · have lz1 : ¬ (x1 : Int) < 128 := by omega
      by_cases hi1 : 192 ≤ x1
      · have hz1 : (192 : Int) ≤ (x1 : Int) := by omega
        have HW : Hid (whN (N - i) x0 x1 x2 x3 = 0) := by
          show _ = _
          unfold whN
          repeat' split
          all_goals omega
        go_enter Tryd.func43, Tryd.ntmps43
        go_wp2_with fail
        refine wp_loop_rounds 1 ?_
        rw [rounds_succ]
        go_wp2
        go_ret
        exact ⟨by rw [HW.out]; rfl, rfl⟩
      · have hz1 : ¬ (192 : Int) ≤ (x1 : Int) := by omega
        go_enter Tryd.func43, Tryd.ntmps43
        go_wp2_with fail
        refine wp_loop_rounds 2 ?_
        rw [rounds_succ]
        go_wp2
        rw [rounds_succ]
        go_wp2
        all_goals
          go_ret
          refine ⟨?_, rfl⟩
          refine congrArg (fun r : Nat => Ending.returned (Value.int .i64 r)) (?_ : _ = whN (N - i) x0 x1 x2 x3)
          unfold whN
          repeat' split
          all_goals first | rfl | omega
  · have sz : (N : Int) < (i : Int) + 2 := by omega
    have HW : Hid (whN (N - i) x0 x1 x2 x3 = 0) := by
      show _ = _
      unfold whN
      repeat' split
      all_goals omega
    go_enter Tryd.func43, Tryd.ntmps43
    go_wp2
    go_ret
    exact ⟨by rw [HW.out]; rfl, rfl⟩
set_option maxHeartbeats 4000000 in
set_option maxRecDepth 100000 in
theorem whole_3 {w : World} (b off c i N x0 x1 x2 x3 : Nat) (hA : At4 w b off i N x0 x1 x2 x3) (hi : i < N) (hc : N ≤ c) (hN : N ≤ 100000) (h0 : x0 < 256) (h1 : x1 < 256) (h2 : x2 < 256) (h3 : x3 < 256) (hl : 224 ≤ x0) (hu : x0 < 240) :
    Calls Tryd.prog 43 #[.slice (some ⟨b, off, none⟩) N c, .int .i64 i] w fun e w' => e = .returned (.int .i64 (whN (N - i) x0 x1 x2 x3)) ∧ w = w' := by
  have c0 := hA.c0
  have iz : (i : Int) < (N : Int) := by omega
  have cz : (N : Int) ≤ (c : Int) := by omega
  have Nz : (N : Int) ≤ 100000 := by omega
  have z0 : ¬ (x0 : Int) < 128 := by omega
  have p192 : (192 : Int) ≤ (x0 : Int) := by omega
  have q192 : ¬ (x0 : Int) < 224 := by omega
  have p224 : (224 : Int) ≤ (x0 : Int) := by omega
  have q224 : (x0 : Int) < 240 := by omega
  by_cases hs : i + 3 ≤ N
  · have sz : ¬ (N : Int) < (i : Int) + 3 := by omega
    have k1 := hA.c1 (by omega)
    have y1 : (i : Int) + 1 < (N : Int) := by omega
    have t1 : ((i : Int) + 1).toNat = i + 1 := by omega
    by_cases lo1 : x1 < 128
    · have lz1 : (x1 : Int) < 128 := by omega
      have HW : Hid (whN (N - i) x0 x1 x2 x3 = 0) := by
        show _ = _
        unfold whN
        repeat' split
        all_goals omega
      go_enter Tryd.func43, Tryd.ntmps43
      go_wp2_with fail
      refine wp_loop_rounds 1 ?_
      rw [rounds_succ]
      go_wp2
      go_ret
      exact ⟨by rw [HW.out]; rfl, rfl⟩
    · have lz1 : ¬ (x1 : Int) < 128 := by omega
      by_cases hi1 : 192 ≤ x1
      · have hz1 : (192 : Int) ≤ (x1 : Int) := by omega
        have HW : Hid (whN (N - i) x0 x1 x2 x3 = 0) := by
          show _ = _
          unfold whN
          repeat' split
          all_goals omega
        go_enter Tryd.func43, Tryd.ntmps43
        go_wp2_with fail
        refine wp_loop_rounds 1 ?_
        rw [rounds_succ]
        go_wp2
        go_ret
        exact ⟨by rw [HW.out]; rfl, rfl⟩
      · have hz1 : ¬ (192 : Int) ≤ (x1 : Int) := by omega
        have k2 := hA.c2 (by omega)
        have y2 : (i : Int) + 2 < (N : Int) := by omega
        have t2 : ((i : Int) + 2).toNat = i + 2 := by omega
        by_cases lo2 : x2 < 128
        · have lz2 : (x2 : Int) < 128 := by omega
          have HW : Hid (whN (N - i) x0 x1 x2 x3 = 0) := by
            show _ = _
            unfold whN
            repeat' split
            all_goals omega
          go_enter Tryd.func43, Tryd.ntmps43
          go_wp2_with fail
          refine wp_loop_rounds 2 ?_
          rw [rounds_succ]
          go_wp2
          rw [rounds_succ]
          go_wp2
          go_ret
          exact ⟨by rw [HW.out]; rfl, rfl⟩
        · have lz2 : ¬ (x2 : Int) < 128 := by omega
          by_cases hi2 : 192 ≤ x2
          · have hz2 : (192 : Int) ≤ (x2 : Int) := by omega
            have HW : Hid (whN (N - i) x0 x1 x2 x3 = 0) := by
              show _ = _
              unfold whN
              repeat' split
              all_goals omega
            go_enter Tryd.func43, Tryd.ntmps43
            go_wp2_with fail
            refine wp_loop_rounds 2 ?_
            rw [rounds_succ]
            go_wp2
            rw [rounds_succ]
            go_wp2
            go_ret
            exact ⟨by rw [HW.out]; rfl, rfl⟩
          · have hz2 : ¬ (192 : Int) ≤ (x2 : Int) := by omega
            go_enter Tryd.func43, Tryd.ntmps43
            go_wp2_with fail
            refine wp_loop_rounds 3 ?_
            rw [rounds_succ]
            go_wp2
            rw [rounds_succ]
            go_wp2
            rw [rounds_succ]
            go_wp2
            all_goals
              go_ret
              refine ⟨?_, rfl⟩
              refine congrArg (fun r : Nat => Ending.returned (Value.int .i64 r)) (?_ : _ = whN (N - i) x0 x1 x2 x3)
              unfold whN
              repeat' split
              all_goals first | rfl | omega
  · have sz : (N : Int) < (i : Int) + 3 := by omega
    have HW : Hid (whN (N - i) x0 x1 x2 x3 = 0) := by
      show _ = _
      unfold whN
      repeat' split
      all_goals omega
    go_enter Tryd.func43, Tryd.ntmps43
    go_wp2
    go_ret
    exact ⟨by rw [HW.out]; rfl, rfl⟩
set_option maxHeartbeats 4000000 in
set_option maxRecDepth 100000 in
theorem whole_4 {w : World} (b off c i N x0 x1 x2 x3 : Nat) (hA : At4 w b off i N x0 x1 x2 x3) (hi : i < N) (hc : N ≤ c) (hN : N ≤ 100000) (h0 : x0 < 256) (h1 : x1 < 256) (h2 : x2 < 256) (h3 : x3 < 256) (hl : 240 ≤ x0) (hu : x0 < 248) :
    Calls Tryd.prog 43 #[.slice (some ⟨b, off, none⟩) N c, .int .i64 i] w fun e w' => e = .returned (.int .i64 (whN (N - i) x0 x1 x2 x3)) ∧ w = w' := by
  have c0 := hA.c0
  have iz : (i : Int) < (N : Int) := by omega
  have cz : (N : Int) ≤ (c : Int) := by omega
  have Nz : (N : Int) ≤ 100000 := by omega
  have z0 : ¬ (x0 : Int) < 128 := by omega
  have p192 : (192 : Int) ≤ (x0 : Int) := by omega
  have q192 : ¬ (x0 : Int) < 224 := by omega
  have p224 : (224 : Int) ≤ (x0 : Int) := by omega
  have q224 : ¬ (x0 : Int) < 240 := by omega
  have p240 : (240 : Int) ≤ (x0 : Int) := by omega
  have q240 : (x0 : Int) < 248 := by omega
  by_cases hs : i + 4 ≤ N
  · have sz : ¬ (N : Int) < (i : Int) + 4 := by omega
    have k1 := hA.c1 (by omega)
    have y1 : (i : Int) + 1 < (N : Int) := by omega
    have t1 : ((i : Int) + 1).toNat = i + 1 := by omega
    by_cases lo1 : x1 < 128
    · have lz1 : (x1 : Int) < 128 := by omega
      have HW : Hid (whN (N - i) x0 x1 x2 x3 = 0) := by
        show _ = _
        unfold whN
        repeat' split
        all_goals omega
      go_enter Tryd.func43, Tryd.ntmps43
      go_wp2_with fail
      refine wp_loop_rounds 1 ?_
      rw [rounds_succ]
      go_wp2
      go_ret
      exact ⟨by rw [HW.out]; rfl, rfl⟩
    · have lz1 : ¬ (x1 : Int) < 128 := by omega
      by_cases hi1 : 192 ≤ x1
      · have hz1 : (192 : Int) ≤ (x1 : Int) := by omega
        have HW : Hid (whN (N - i) x0 x1 x2 x3 = 0) := by
          show _ = _
          unfold whN
          repeat' split
          all_goals omega
        go_enter Tryd.func43, Tryd.ntmps43
        go_wp2_with fail
        refine wp_loop_rounds 1 ?_
        rw [rounds_succ]
        go_wp2
        go_ret
        exact ⟨by rw [HW.out]; rfl, rfl⟩
      · have hz1 : ¬ (192 : Int) ≤ (x1 : Int) := by omega
        have k2 := hA.c2 (by omega)
        have y2 : (i : Int) + 2 < (N : Int) := by omega
        have t2 : ((i : Int) + 2).toNat = i + 2 := by omega
        by_cases lo2 : x2 < 128
        · have lz2 : (x2 : Int) < 128 := by omega
          have HW : Hid (whN (N - i) x0 x1 x2 x3 = 0) := by
            show _ = _
            unfold whN
            repeat' split
            all_goals omega
          go_enter Tryd.func43, Tryd.ntmps43
          go_wp2_with fail
          refine wp_loop_rounds 2 ?_
          rw [rounds_succ]
          go_wp2
          rw [rounds_succ]
          go_wp2
          go_ret
          exact ⟨by rw [HW.out]; rfl, rfl⟩
        · have lz2 : ¬ (x2 : Int) < 128 := by omega
          by_cases hi2 : 192 ≤ x2
          · have hz2 : (192 : Int) ≤ (x2 : Int) := by omega
            have HW : Hid (whN (N - i) x0 x1 x2 x3 = 0) := by
              show _ = _
              unfold whN
              repeat' split
              all_goals omega
            go_enter Tryd.func43, Tryd.ntmps43
            go_wp2_with fail
            refine wp_loop_rounds 2 ?_
            rw [rounds_succ]
            go_wp2
            rw [rounds_succ]
            go_wp2
            go_ret
            exact ⟨by rw [HW.out]; rfl, rfl⟩
          · have hz2 : ¬ (192 : Int) ≤ (x2 : Int) := by omega
            have k3 := hA.c3 (by omega)
            have y3 : (i : Int) + 3 < (N : Int) := by omega
            have t3 : ((i : Int) + 3).toNat = i + 3 := by omega
            by_cases lo3 : x3 < 128
            · have lz3 : (x3 : Int) < 128 := by omega
              have HW : Hid (whN (N - i) x0 x1 x2 x3 = 0) := by
                show _ = _
                unfold whN
                repeat' split
                all_goals omega
              go_enter Tryd.func43, Tryd.ntmps43
              go_wp2_with fail
              refine wp_loop_rounds 3 ?_
              rw [rounds_succ]
              go_wp2
              rw [rounds_succ]
              go_wp2
              rw [rounds_succ]
              go_wp2
              go_ret
              exact ⟨by rw [HW.out]; rfl, rfl⟩
            · have lz3 : ¬ (x3 : Int) < 128 := by omega
              by_cases hi3 : 192 ≤ x3
              · have hz3 : (192 : Int) ≤ (x3 : Int) := by omega
                have HW : Hid (whN (N - i) x0 x1 x2 x3 = 0) := by
                  show _ = _
                  unfold whN
                  repeat' split
                  all_goals omega
                go_enter Tryd.func43, Tryd.ntmps43
                go_wp2_with fail
                refine wp_loop_rounds 3 ?_
                rw [rounds_succ]
                go_wp2
                rw [rounds_succ]
                go_wp2
                rw [rounds_succ]
                go_wp2
                go_ret
                exact ⟨by rw [HW.out]; rfl, rfl⟩
              · have hz3 : ¬ (192 : Int) ≤ (x3 : Int) := by omega
                go_enter Tryd.func43, Tryd.ntmps43
                go_wp2_with fail
                refine wp_loop_rounds 4 ?_
                rw [rounds_succ]
                go_wp2
                rw [rounds_succ]
                go_wp2
                rw [rounds_succ]
                go_wp2
                rw [rounds_succ]
                go_wp2
                all_goals
                  go_ret
                  refine ⟨?_, rfl⟩
                  refine congrArg (fun r : Nat => Ending.returned (Value.int .i64 r)) (?_ : _ = whN (N - i) x0 x1 x2 x3)
                  unfold whN
                  repeat' split
                  all_goals first | rfl | omega
  · have sz : (N : Int) < (i : Int) + 4 := by omega
    have HW : Hid (whN (N - i) x0 x1 x2 x3 = 0) := by
      show _ = _
      unfold whN
      repeat' split
      all_goals omega
    go_enter Tryd.func43, Tryd.ntmps43
    go_wp2
    go_ret
    exact ⟨by rw [HW.out]; rfl, rfl⟩
end Go.Proofs.YtonekkfpadgdhaaDoor
