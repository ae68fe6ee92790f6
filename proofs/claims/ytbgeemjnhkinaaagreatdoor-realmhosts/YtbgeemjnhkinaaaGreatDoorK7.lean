/-
  Realm: the reference's Host.
-/
import Derived.Test.YtbgeemjnhkinaaaGreatDoorK6
namespace Go.Proofs.YtbgeemjnhkinaaaGreatDoor
open Go.RowKit
set_option maxRecDepth 20000 in
set_option maxHeartbeats 4000000 in
theorem Rends_any {w : World} (X Y : List Int) (uX : U8s X) (uY : U8s Y) (lX : X.length ≤ 1125899906842624) (lY : Y.length ≤ 1125899906842624) :
    Calls Tryz.prog 14 #[.string (strOfNums X), .string (strOfNums Y)] w fun e w' => e = .returned (.bool (endsP X Y)) ∧ w = w' := by
  obtain ⟨n, hn⟩ : ∃ n, X.length = n := ⟨_, rfl⟩
  obtain ⟨m, hm⟩ : ∃ m, Y.length = m := ⟨_, rfl⟩
  have hsX : (strOfNums X).size = n := by rw [st_size, hn]
  have hsY : (strOfNums Y).size = m := by rw [st_size, hm]
  rw [hn] at lX
  rw [hm] at lY
  obtain ⟨R, hR⟩ : ∃ R, endsP X Y = R := ⟨_, rfl⟩
  rw [hR]
  by_cases hlt : m < n
  · have hltI : (m : Int) < (n : Int) := by omega
    obtain ⟨d, hd⟩ : ∃ d, n - m = d := ⟨_, rfl⟩
    have hdI : (n : Int) - (m : Int) = (d : Int) := by omega
    have hdn : d ≤ n := by omega
    have hdnI : (d : Int) ≤ (n : Int) := by omega
    have hx : (strOfNums X).extract d n = strOfNums (X.drop d) := by
      rw [st_extract, List.take_of_length_le (by rw [List.length_drop]; omega)]
    have hE : ((strOfNums (X.drop d)).toList == (strOfNums Y).toList) = R := by
      rw [st_beq _ _ (uX.drop d) uY, ← hR]
      unfold endsP
      rw [hn, hm, hd, decide_eq_true hlt]
      rfl
    clear uX uY hn hm hR hd
    go_enter Tryz.func14, Tryz.ntmps14
    go_wp2
    go_ret
    exact ⟨rfl, rfl⟩
  · have hltI : ¬ (m : Int) < (n : Int) := by omega
    obtain rfl : R = false := by rw [← hR]; unfold endsP; rw [hn, hm, decide_eq_false hlt]; rfl
    clear uX uY hn hm hR
    go_enter Tryz.func14, Tryz.ntmps14
    go_wp2
    go_ret
    exact ⟨rfl, rfl⟩
theorem u8_sml {X : List Int} (h : U8s X) : U8s (X.map sml) := fun x hx => by
  obtain ⟨y, hy, rfl⟩ := List.mem_map.1 hx
  exact sml_u8 (h y hy)
theorem u8_dot {X : List Int} (h : U8s X) : U8s (46 :: X) := fun x hx => by
  rcases List.mem_cons.1 hx with rfl | hx
  · exact ⟨by decide, by decide⟩
  · exact h x hx
set_option maxRecDepth 20000 in
set_option maxHeartbeats 4000000 in
theorem RHost_any {w : World} (X Y : List Int) (uX : U8s X) (uY : U8s Y) (lX : X.length ≤ 1000000) (lY : Y.length ≤ 1000000) :
    Calls Tryz.prog 6 #[.string (strOfNums X), .string (strOfNums Y)] w fun e w' => e = .returned (.bool (hostB X Y)) ∧ Below w.heap.size w w' := by
  rw [← rhost_eq]
  have HM : Hid (∀ W : World, Calls Tryz.prog 13 #[.string (strOfNums X)] W fun e w' => e = .returned (.string (strOfNums (X.map sml))) ∧ Below W.heap.size W w') := fun W => Rsmall_any X uX lX
  have HN : Hid (∀ W : World, Calls Tryz.prog 13 #[.string (strOfNums Y)] W fun e w' => e = .returned (.string (strOfNums (Y.map sml))) ∧ Below W.heap.size W w') := fun W => Rsmall_any Y uY lY
  have uA := u8_sml uX
  have uC := u8_sml uY
  have lA : (X.map sml).length ≤ 1000000 := by rw [List.length_map]; exact lX
  have lC : (Y.map sml).length ≤ 1000000 := by rw [List.length_map]; exact lY
  unfold rhostB
  obtain ⟨A, hA⟩ : ∃ A, X.map sml = A := ⟨_, rfl⟩
  obtain ⟨C, hC⟩ : ∃ C, Y.map sml = C := ⟨_, rfl⟩
  rw [hA] at uA lA HM ⊢
  rw [hC] at uC lC HN ⊢
  clear hA hC uX uY lX lY
  obtain ⟨E1, hE1⟩ : ∃ E1, endsP (46 :: A) (46 :: C) = E1 := ⟨_, rfl⟩
  obtain ⟨E2, hE2⟩ : ∃ E2, endsP A C = E2 := ⟨_, rfl⟩
  have H1 : Hid (∀ W : World, Calls Tryz.prog 14 #[.string (strOfNums (46 :: A)), .string (strOfNums (46 :: C))] W fun e w' => e = .returned (.bool E1) ∧ W = w') := fun W => hE1 ▸ Rends_any _ _ (u8_dot uA) (u8_dot uC) (by simp; omega) (by simp; omega)
  have H2 : Hid (∀ W : World, Calls Tryz.prog 14 #[.string (strOfNums A), .string (strOfNums C)] W fun e w' => e = .returned (.bool E2) ∧ W = w') := fun W => hE2 ▸ Rends_any _ _ uA uC (by omega) (by omega)
  rw [hE1, hE2]
  clear hE1 hE2
  have ha : (⟨#[46]⟩ : ByteArray) ++ strOfNums A = strOfNums (46 :: A) := st_append [46] A
  have hc : (⟨#[46]⟩ : ByteArray) ++ strOfNums C = strOfNums (46 :: C) := st_append [46] C
  have na : ¬ 9223372036854775807 < 1 + (strOfNums A).size := by rw [st_size]; omega
  have nc : ¬ 9223372036854775807 < 1 + (strOfNums C).size := by rw [st_size]; omega
  obtain ⟨q0, h0⟩ : ∃ q : Bool, decide (C = []) = q := ⟨_, rfl⟩
  have e0 : (strOfNums C).toList.isEmpty = q0 := by rw [st_emp, h0]
  obtain ⟨q1, h1⟩ : ∃ q : Bool, decide (A = C) = q := ⟨_, rfl⟩
  have e1 : ((strOfNums A).toList == (strOfNums C).toList) = q1 := by rw [st_beq A C uA uC, h1]
  rw [h0, h1]
  have hsC : q0 = false → 0 < C.length := fun h => by
    rw [h] at h0
    exact List.length_pos_iff.2 (by simpa using h0)
  have HC : Hid (U8s C) := uC
  clear h0 h1 uA uC
  cases q0 with
  | true =>
    clear hsC
    go_enter Tryz.func6, Tryz.ntmps6
    go_upto_region 2 with (first
      | (go_at_call 13; have hq := hb1; clear hq; refine (HN.out _).mono ?_; rintro e w2 ⟨rfl, hb2⟩)
      | (go_at_call 13; refine (HM.out _).mono ?_; rintro e w1 ⟨rfl, hb1⟩))
    have HB : Hid (Below w.heap.size w w2) := hb1.trans (hb2.mono hb1.size)
    clear hb1 hb2 HM HN
    clear H1 H2 ha hc e1 HC
    go_wp2
    go_ret
    exact ⟨by simp, HB.out⟩
  | false =>
    have hC0 := hsC rfl
    clear hsC
    cases q1 with
    | true =>
      go_enter Tryz.func6, Tryz.ntmps6
      go_upto_region 2 with (first
        | (go_at_call 13; have hq := hb1; clear hq; refine (HN.out _).mono ?_; rintro e w2 ⟨rfl, hb2⟩)
        | (go_at_call 13; refine (HM.out _).mono ?_; rintro e w1 ⟨rfl, hb1⟩))
      have HB : Hid (Below w.heap.size w w2) := hb1.trans (hb2.mono hb1.size)
      clear hb1 hb2 HM HN
      clear H1 H2 ha hc HC
      go_wp2
      go_ret
      exact ⟨by simp, HB.out⟩
    | false =>
      cases E1 with
      | true =>
        go_enter Tryz.func6, Tryz.ntmps6
        go_upto_region 2 with (first
          | (go_at_call 13; have hq := hb1; clear hq; refine (HN.out _).mono ?_; rintro e w2 ⟨rfl, hb2⟩)
          | (go_at_call 13; refine (HM.out _).mono ?_; rintro e w1 ⟨rfl, hb1⟩))
        have HB : Hid (Below w.heap.size w w2) := hb1.trans (hb2.mono hb1.size)
        clear hb1 hb2 HM HN
        clear H2 HC
        go_wp2_with (go_at_call 14; refine (H1.out _).mono ?_; rintro e w3 ⟨rfl, rfl⟩)
        go_ret
        exact ⟨by simp, HB.out⟩
      | false =>
        obtain ⟨y, hy⟩ : ∃ y, C.getD 0 0 = y := ⟨_, rfl⟩
        have gy := st_get C HC.out 0 hC0 (by rw [st_size]; exact hC0)
        have hz : 0 < (strOfNums C).size := by rw [st_size]; exact hC0
        rw [hy] at gy ⊢
        obtain ⟨p, hp⟩ : ∃ p : Bool, decide (y = 46) = p := ⟨_, rfl⟩
        have hpb : (y == 46) = p := by rw [← hp]; rfl
        rw [hp]
        clear hy hp
        cases p with
        | false =>
          go_enter Tryz.func6, Tryz.ntmps6
          go_upto_region 2 with (first
            | (go_at_call 13; have hq := hb1; clear hq; refine (HN.out _).mono ?_; rintro e w2 ⟨rfl, hb2⟩)
            | (go_at_call 13; refine (HM.out _).mono ?_; rintro e w1 ⟨rfl, hb1⟩))
          have HB : Hid (Below w.heap.size w w2) := hb1.trans (hb2.mono hb1.size)
          clear hb1 hb2 HM HN
          clear H2 HC
          go_wp2_with (go_at_call 14; refine (H1.out _).mono ?_; rintro e w3 ⟨rfl, rfl⟩)
          go_ret
          exact ⟨by simp, HB.out⟩
        | true =>
          go_enter Tryz.func6, Tryz.ntmps6
          go_upto_region 2 with (first
            | (go_at_call 13; have hq := hb1; clear hq; refine (HN.out _).mono ?_; rintro e w2 ⟨rfl, hb2⟩)
            | (go_at_call 13; refine (HM.out _).mono ?_; rintro e w1 ⟨rfl, hb1⟩))
          have HB : Hid (Below w.heap.size w w2) := hb1.trans (hb2.mono hb1.size)
          clear hb1 hb2 HM HN
          clear HC
          go_wp2_with (first
            | (go_at_call 14; have hq := hx3; clear hq; refine (H2.out _).mono ?_; rintro e w4 ⟨rfl, rfl⟩)
            | (go_at_call 14; refine (H1.out _).mono ?_; rintro e w3 ⟨rfl, rfl⟩; have hx3 : True := trivial))
          go_ret
          exact ⟨by simp, HB.out⟩
end Go.Proofs.YtbgeemjnhkinaaaGreatDoor
/-
  Realm: the reference's last place of a sign; its Mail.
-/
namespace Go.Proofs.YtbgeemjnhkinaaaGreatDoor
open Go.RowKit
set_option maxRecDepth 20000 in
set_option maxHeartbeats 4000000 in
theorem Rlast_any {w : World} (X : List Int) (uX : U8s X) (lX : X.length ≤ 1125899906842624) :
    Calls Tryz.prog 17 #[.string (strOfNums X)] w fun e w' => e = .returned (.int .i64 (lastB X 64)) ∧ w = w' := by
  obtain ⟨n, hn⟩ : ∃ n, X.length = n := ⟨_, rfl⟩
  have hsX : (strOfNums X).size = n := by rw [st_size, hn]
  have HX : Hid (U8s X ∧ True ∧ X.length = n) := ⟨uX, trivial, hn⟩
  obtain ⟨R, hR⟩ : ∃ R, lastB X 64 = R := ⟨_, rfl⟩
  have HR : Hid (lastF X 64 n = R) := by show _ = _; rw [← hR]; unfold lastB; rw [hn]
  rw [hR]
  rw [hn] at lX
  clear uX hn hR
  go_enter Tryz.func17, Tryz.ntmps17
  go_wp2_with fail
  go_loopw [3] (fun iv wr => ∃ k : Nat, iv = .int .i64 ((k : Int) - 1) ∧ k ≤ n ∧ w = wr ∧ Hid (lastF X 64 k = R)) (fun iv _ => (intOf iv + 1).toNat)
  case atStart => exact ⟨n, rfl, Nat.le_refl _, rfl, HR.out⟩
  case round =>
    obtain ⟨k, rfl, hk, rfl, HI⟩ := hrel
    cases k with
    | zero =>
      obtain rfl : R = -1 := by rw [← HI.out]; rfl
      go_wp2
      go_ret
      exact ⟨rfl, rfl⟩
    | succ k =>
      have hkI : ((k + 1 : Nat) : Int) - 1 = (k : Int) := by omega
      rw [hkI]
      have hkn : k < n := by omega
      have hknI : (k : Int) < (n : Int) := by omega
      obtain ⟨x, hx⟩ : ∃ x, X.getD k 0 = x := ⟨_, rfl⟩
      have gx := st_get X HX.out.1 k (by have := HX.out.2.2; omega) (by omega)
      rw [hx] at gx
      have HS : Hid (R = if x = 64 then (k : Int) else lastF X 64 k) := by show _ = _; rw [← HI.out, show lastF X 64 (k + 1) = if X.getD k 0 = 64 then (k : Int) else lastF X 64 k from rfl, hx]
      clear hx hkI
      by_cases hxc : x = 64
      · have hb : (x == 64) = true := by simpa using hxc
        obtain rfl : R = (k : Int) := by rw [HS.out, if_pos hxc]
        clear hxc
        go_wp2
        go_ret
        exact ⟨rfl, rfl⟩
      · have hb : (x == 64) = false := by simpa using hxc
        have HN : Hid (lastF X 64 k = R) := by show _ = _; rw [HS.out, if_neg hxc]
        clear hxc
        go_wp2
        go_roundw
        case rel => exact ⟨k, rfl, by omega, trivial, HN.out⟩
        case measure => simp [intOf]
theorem frF10a {ops : Array Oper} {V : Nat → Value} {t : Array Value} {d0 d1 d2 d3 d4 d5 d6 d7 d8 d9 : Nat} (hs : ops.size = 10) (h0 : dstOf ops 0 = some d0) (h1 : dstOf ops 1 = some d1) (h2 : dstOf ops 2 = some d2) (h3 : dstOf ops 3 = some d3) (h4 : dstOf ops 4 = some d4) (h5 : dstOf ops 5 = some d5) (h6 : dstOf ops 6 = some d6) (h7 : dstOf ops 7 = some d7) (h8 : dstOf ops 8 = some d8) (h9 : dstOf ops 9 = some d9) :
    frF ops V t ops.size = ((((((((((t.setIfInBounds d0 (V 0)).setIfInBounds d1 (V 1)).setIfInBounds d2 (V 2)).setIfInBounds d3 (V 3)).setIfInBounds d4 (V 4)).setIfInBounds d5 (V 5)).setIfInBounds d6 (V 6)).setIfInBounds d7 (V 7)).setIfInBounds d8 (V 8)).setIfInBounds d9 (V 9)) := by
  rw [hs]
  simp only [frF, h0, h1, h2, h3, h4, h5, h6, h7, h8, h9]
theorem run_sthi {a : Act} {W : World} {o : Oper} {x z : Operand} (hop : o.op = .slice 9 x none (some z) none) {X : List Int} {k : Nat} (hx : a.eval x = .string (strOfNums X)) (hz : a.eval z = .int .i64 (k : Int)) (hk : k ≤ X.length) :
    (execOp a.eval o).run Tryz.prog W = .ok (.value (.string (strOfNums (X.take k)))) W := by
  have e : (strOfNums X).extract 0 k = strOfNums (X.take k) := by rw [st_extract]; simp
  have h1 : (k : Int) ≤ ((strOfNums X).size : Int) := by rw [st_size]; omega
  unfold execOp
  simp only [hop, Option.map_some, Option.map_none, hx, hz]
  simp [go_sem, h1, e]
theorem run_stlo {a : Act} {W : World} {o : Oper} {x z : Operand} (hop : o.op = .slice 9 x (some z) none none) {X : List Int} {k : Nat} (hx : a.eval x = .string (strOfNums X)) (hz : a.eval z = .int .i64 (k : Int)) (hk : k ≤ X.length) :
    (execOp a.eval o).run Tryz.prog W = .ok (.value (.string (strOfNums (X.drop k)))) W := by
  have e : (strOfNums X).extract k (strOfNums X).size = strOfNums (X.drop k) := by rw [st_extract, st_size, List.take_of_length_le (by rw [List.length_drop]; omega)]
  have h1 : (k : Int) ≤ ((strOfNums X).size : Int) := by rw [st_size]; omega
  unfold execOp
  simp only [hop, Option.map_some, Option.map_none, hx, hz]
  simp [go_sem, h1, e]
theorem eg_Rsmall (args : Array Value) (w : World) : (callFunc 13 args).run Tryz.prog w = .ok (.enter 13 args) w := by
  have g1 : ¬ Tryz.f13.name = "runtime.NumGoroutine" := by decide +kernel
  have g2 : Tryz.f13.body.isNone = false := by kernel_rfl
  have g3 : ¬ Tryz.f13.body = none := fun h => by rw [h] at g2; cases g2
  simp [go_sem, callFunc, Tryz.func13, g1, g3]
end Go.Proofs.YtbgeemjnhkinaaaGreatDoor
/-
  Realm: the reference's Mail.
-/
namespace Go.Proofs.YtbgeemjnhkinaaaGreatDoor
open Go.RowKit
theorem cutO_pos {X : List Int} {i : Nat} (h : lastB X 64 = (i : Int)) : cutO X = (X.take i, X.drop (i + 1), true) := by
  unfold cutO
  rw [h, if_neg (by omega)]
  simp
theorem cutO_neg {X : List Int} (h : lastB X 64 < 0) : cutO X = ([], [], false) := by
  unfold cutO
  rw [if_pos h]
theorem lastB_bd (X : List Int) : -1 ≤ lastB X 64 ∧ lastB X 64 < X.length := lastF_bd X 64 X.length
set_option maxRecDepth 20000 in
set_option maxHeartbeats 4000000 in
theorem RMail_no {w : World} (X Y : List Int) (uX : U8s X) (lX : X.length ≤ 1000000) (h : lastB X 64 < 1 ∨ lastB X 64 = X.length - 1) :
    Calls Tryz.prog 8 #[.string (strOfNums X), .string (strOfNums Y)] w fun e w' => e = .returned (.bool (mailB X Y)) ∧ Below w.heap.size w w' := by
  have HL : Hid (∀ W : World, Calls Tryz.prog 17 #[.string (strOfNums X)] W fun e w' => e = .returned (.int .i64 (lastB X 64)) ∧ W = w') := fun W => Rlast_any X uX (by omega)
  have hbd := lastB_bd X
  have e : mailB X Y = false := by
    unfold mailB
    refine if_pos ?_
    rcases Int.lt_or_le (lastB X 64) 0 with h0 | h0
    · rw [cutO_neg h0]; exact .inl rfl
    · obtain ⟨i, hi⟩ : ∃ i : Nat, lastB X 64 = (i : Int) := ⟨(lastB X 64).toNat, by omega⟩
      rw [cutO_pos hi]
      rcases h with h | h
      · left
        obtain rfl : i = 0 := by omega
        rfl
      · right
        exact List.drop_of_length_le (by omega)
  rw [e]
  obtain ⟨n, hn⟩ : ∃ n, X.length = n := ⟨_, rfl⟩
  have hsX : (strOfNums X).size = n := by rw [st_size, hn]
  obtain ⟨I, hI⟩ : ∃ I, lastB X 64 = I := ⟨_, rfl⟩
  rw [hI] at HL h hbd
  rw [hn] at lX h hbd
  clear e hI hn uX
  by_cases h1 : I < 1
  · go_enter Tryz.func8, Tryz.ntmps8
    go_wp2_with (go_at_call 17; refine (HL.out _).mono ?_; rintro e w1 ⟨rfl, rfl⟩)
    go_ret
    exact ⟨rfl, Below.refl _ _⟩
  · have h2 : I = (n : Int) - 1 := by omega
    have h3 : (I == (n : Int) - 1) = true := by simp [h2]
    clear h
    go_enter Tryz.func8, Tryz.ntmps8
    go_wp2_with (go_at_call 17; refine (HL.out _).mono ?_; rintro e w1 ⟨rfl, rfl⟩)
    go_ret
    exact ⟨rfl, Below.refl _ _⟩
end Go.Proofs.YtbgeemjnhkinaaaGreatDoor
/-
  Realm: the reference's Mail where the address has a box and a house.
-/
namespace Go.Proofs.YtbgeemjnhkinaaaGreatDoor
open Go.RowKit
set_option maxRecDepth 20000 in
set_option maxHeartbeats 8000000 in
theorem RMail_yes {w : World} (X Y : List Int) (uX : U8s X) (uY : U8s Y) (lX : X.length ≤ 1000000) (lY : Y.length ≤ 1000000) (i : Nat) (hi : lastB X 64 = (i : Int)) (h1 : 1 ≤ i) (h2 : i + 1 < X.length) :
    Calls Tryz.prog 8 #[.string (strOfNums X), .string (strOfNums Y)] w fun e w' => e = .returned (.bool (mailB X Y)) ∧ Below w.heap.size w w' := by
  have HL : Hid (∀ W : World, Calls Tryz.prog 17 #[.string (strOfNums X)] W fun e w' => e = .returned (.int .i64 (i : Int)) ∧ W = w') := fun W => hi ▸ Rlast_any X uX (by omega)
  obtain ⟨K, hK⟩ : ∃ K, lastB Y 64 = K := ⟨_, rfl⟩
  have HLY : Hid (∀ W : World, Calls Tryz.prog 17 #[.string (strOfNums Y)] W fun e w' => e = .returned (.int .i64 K) ∧ W = w') := fun W => hK ▸ Rlast_any Y uY (by omega)
  obtain ⟨A, hA⟩ : ∃ A, X.take i = A := ⟨_, rfl⟩
  obtain ⟨H, hH⟩ : ∃ H, X.drop (i + 1) = H := ⟨_, rfl⟩
  have uA : U8s A := hA ▸ uX.take i
  have uH : U8s H := hH ▸ uX.drop (i + 1)
  have lA : A.length = i := by rw [← hA, List.length_take]; omega
  have lH : H.length + (i + 1) = X.length := by rw [← hH, List.length_drop]; omega
  have hbd := lastB_bd Y
  have HM : Hid (mailB X Y = if (cutO Y).2.2 = true then decide (A = (cutO Y).1) && sameB H (cutO Y).2.1 else if Y.getD 0 0 = 46 then endsB H Y else decide (Y = []) || sameB H Y) := by
    show _ = _
    unfold mailB
    rw [cutO_pos hi, hA, hH, if_neg]
    rintro (h | h)
    · replace h : A = [] := h
      rw [h] at lA; simp at lA; omega
    · replace h : H = [] := h
      rw [h] at lH; simp at lH; omega
  obtain ⟨R, hR⟩ : ∃ R, mailB X Y = R := ⟨_, rfl⟩
  rw [hR] at HM ⊢
  obtain ⟨n, hn⟩ : ∃ n, X.length = n := ⟨_, rfl⟩
  have hsX : (strOfNums X).size = n := by rw [st_size, hn]
  have HX : Hid (U8s A ∧ U8s H ∧ U8s Y ∧ H.length ≤ 1000000 ∧ X.take i = A ∧ X.drop (i + 1) = H ∧ X.length = n ∧ Y.length ≤ 1000000 ∧ lastB Y 64 = K) := ⟨uA, uH, uY, by omega, hA, hH, hn, lY, hK⟩
  have HSm : Hid (∀ W : World, Calls Tryz.prog 13 #[.string (strOfNums H)] W fun e w' => e = .returned (.string (strOfNums (H.map sml))) ∧ Below W.heap.size W w') := fun W => Rsmall_any H uH (by omega)
  rw [hn] at lX h2 lH
  have g1 : ¬ (i : Int) < 1 := by omega
  have g2 : ((i : Int) == (n : Int) - 1) = false := by simp; omega
  have g3 : IntKind.i64.wrap ((i : Int) + 1) = ((i + 1 : Nat) : Int) := by rw [IntKind.wrap_i64]; omega
  clear uA uH uX uY hA hH hn hR hi lY
  go_enter Tryz.func8, Tryz.ntmps8
  go_upto_region 4 with (go_at_call 17; refine (HL.out _).mono ?_; rintro e w1 ⟨rfl, rfl⟩)
  refine wp_region_still (fun k => ([.string (strOfNums X), .int .i64 (i : Int), .string (strOfNums A), .string (strOfNums X), .int .i64 (i : Int), .int .i64 ((i + 1 : Nat) : Int), .string (strOfNums H), .string (strOfNums (H.map sml)), .string (strOfNums A), .string (strOfNums (H.map sml))] : List Value).getD k undef) (fun W => Below w.heap.size w W) rfl (by decide +kernel) (show dstB _ 59 = true by decide +kernel) (Below.refl _ w).drew (fun W hS => ?_) (fun i0 F W a hi0 hno hdep hv hn0 h0 hS => ?_)
  rotate_left
  · replace hi0 : i0 < 10 := hi0
    have x0 : a.eval (.tmp 0) = .string (strOfNums X) := (h0 0 (by decide +kernel)).trans rfl
    have x5 : a.eval (.tmp 5) = .int .i64 (i : Int) := (h0 5 (by decide +kernel)).trans rfl
    obtain rfl | rfl | rfl | rfl | rfl | rfl | rfl | rfl | rfl | rfl : i0 = 0 ∨ i0 = 1 ∨ i0 = 2 ∨ i0 = 3 ∨ i0 = 4 ∨ i0 = 5 ∨ i0 = 6 ∨ i0 = 7 ∨ i0 = 8 ∨ i0 = 9 := by omega
    · exact rg_val rfl (wn_any rfl) (run_mv rfl x0) hS
    · exact rg_val rfl (wn_any rfl) (run_mv rfl x5) hS
    · refine rg_val rfl (wn_any rfl) ((run_sthi rfl (hv 0 _ (show 0 < 10 by decide) (hdep 0 (by decide +kernel)) rfl) (hv 1 _ (show 1 < 10 by decide) (hdep 1 (by decide +kernel)) rfl) (show i ≤ X.length by have := HX.out.2.2.2.2.2.2.1; omega)).trans ?_) hS
      rw [HX.out.2.2.2.2.1]
      rfl
    · exact rg_val rfl (wn_any rfl) (run_mv rfl x0) hS
    · exact rg_val rfl (wn_any rfl) (run_mv rfl x5) hS
    · exact rg_val rfl (wn_any rfl) (run_bin (v := .int .i64 ((i + 1 : Nat) : Int)) rfl (hv 4 _ (show 4 < 10 by decide) (hdep 4 (by decide +kernel)) rfl) rfl (by simp [go_sem]; omega)) hS
    · refine rg_val rfl (wn_any rfl) ((run_stlo rfl (hv 3 _ (show 3 < 10 by decide) (hdep 3 (by decide +kernel)) rfl) (hv 5 _ (show 5 < 10 by decide) (hdep 5 (by decide +kernel)) rfl) (show i + 1 ≤ X.length by have := HX.out.2.2.2.2.2.2.1; omega)).trans ?_) hS
      rw [HX.out.2.2.2.2.2.1]
      rfl
    · exact rg_call rfl (wn_any rfl) (run_cl1 rfl (hv 6 _ (show 6 < 10 by decide) (hdep 6 (by decide +kernel)) rfl) eg_Rsmall) (R := fun w' => Below W.heap.size W w') (HSm.out W) (fun w' h => hS.trans (h.mono hS.size))
    · exact rg_val rfl (wn_any rfl) (run_asg rfl (hv 2 _ (show 2 < 10 by decide) (hdep 2 (by decide +kernel)) rfl)) hS
    · exact rg_val rfl (wn_any rfl) (run_asg rfl (hv 7 _ (show 7 < 10 by decide) (hdep 7 (by decide +kernel)) rfl)) hS
  have HW : Hid (Below w.heap.size w W) := hS
  clear hS
  rw [frF10a rfl rfl rfl rfl rfl rfl rfl rfl rfl rfl rfl]
  simp only [List.setIfInBounds_toArray, List.set_cons_succ, List.set_cons_zero, List.getD_cons_zero, List.getD_cons_succ]
  clear HL HSm g1 g2 g3
  have uHs := u8_sml HX.out.2.1
  have hKK := HX.out.2.2.2.2.2.2.2.2
  rcases Int.lt_or_le K 0 with hk | hk
  · have HR : Hid (R = if Y.getD 0 0 = 46 then endsB H Y else decide (Y = []) || sameB H Y) := by
      show _ = _
      rw [HM.out, cutO_neg (by rw [hKK]; exact hk)]
      rfl
    have k1 : ¬ (0 : Int) ≤ K := by omega
    have HSY : Hid (∀ W : World, Calls Tryz.prog 13 #[.string (strOfNums Y)] W fun e w' => e = .returned (.string (strOfNums (Y.map sml))) ∧ Below W.heap.size W w') := fun W => Rsmall_any Y HX.out.2.2.1 HX.out.2.2.2.2.2.2.2.1
    obtain ⟨q0, h0⟩ : ∃ q : Bool, decide (Y = []) = q := ⟨_, rfl⟩
    have e0 : (strOfNums Y).toList.isEmpty = q0 := by rw [st_emp, h0]
    cases q0 with
    | true =>
      obtain rfl : R = true := by
        have hY : Y = [] := by simpa using h0
        rw [HR.out, hY]; simp
      clear h0 HM HR uHs hKK HSY hbd
      go_wp2_with (go_at_call 17; refine (HLY.out _).mono ?_; rintro e w2 ⟨rfl, rfl⟩)
      go_ret
      exact ⟨rfl, HW.out⟩
    | false =>
      have hY0 : 0 < Y.length := List.length_pos_iff.2 (by simpa using h0)
      obtain ⟨y, hy⟩ : ∃ y, Y.getD 0 0 = y := ⟨_, rfl⟩
      have gy := st_get Y HX.out.2.2.1 0 hY0 (by rw [st_size]; exact hY0)
      have hz : 0 < (strOfNums Y).size := by rw [st_size]; exact hY0
      rw [hy] at gy HR
      rw [h0] at HR
      by_cases hp : y = 46
      · have hpb : (y == 46) = true := by simp [hp]
        have HE : Hid (∀ W : World, Calls Tryz.prog 14 #[.string (strOfNums (H.map sml)), .string (strOfNums (Y.map sml))] W fun e w' => e = .returned (.bool R) ∧ W = w') := fun W => by
          have h := Rends_any (w := W) (H.map sml) (Y.map sml) uHs (u8_sml HX.out.2.2.1) (by rw [List.length_map]; have := HX.out.2.2.2.1; omega) (by rw [List.length_map]; have := HX.out.2.2.2.2.2.2.2.1; omega)
          rw [endsP_endsB, ← (HR.out.trans (if_pos hp))] at h
          exact h
        clear h0 HM HR uHs hKK hbd hp hy
        go_wp2_with (first
          | (go_at_call 17; refine (HLY.out _).mono ?_; rintro e w2 ⟨rfl, rfl⟩)
          | (go_at_call 13; refine (HSY.out _).mono ?_; rintro e w3 ⟨rfl, hb3⟩)
          | (go_at_call 14; refine (HE.out _).mono ?_; rintro e w4 ⟨rfl, rfl⟩))
        go_ret
        exact ⟨rfl, HW.out.trans (hb3.mono HW.out.size)⟩
      · have hpb : (y == 46) = false := by simp [hp]
        have hE : ((strOfNums (H.map sml)).toList == (strOfNums (Y.map sml)).toList) = R := by
          rw [st_beq _ _ uHs (u8_sml HX.out.2.2.1), HR.out.trans (if_neg hp)]
          rfl
        clear h0 HM HR uHs hKK hbd hp hy
        go_wp2_with (first
          | (go_at_call 17; refine (HLY.out _).mono ?_; rintro e w2 ⟨rfl, rfl⟩)
          | (go_at_call 13; refine (HSY.out _).mono ?_; rintro e w3 ⟨rfl, hb3⟩))
        go_ret
        exact ⟨rfl, HW.out.trans (hb3.mono HW.out.size)⟩
  · obtain ⟨k, rfl⟩ : ∃ k : Nat, K = (k : Int) := ⟨K.toNat, by omega⟩
    obtain ⟨m, hm⟩ : ∃ m, Y.length = m := ⟨_, rfl⟩
    have hsY : (strOfNums Y).size = m := by rw [st_size, hm]
    rw [hm] at hbd
    have hkm : k < m := by omega
    have HR : Hid (R = (decide (A = Y.take k) && sameB H (Y.drop (k + 1)))) := by
      show _ = _
      rw [HM.out, cutO_pos hKK]
      rfl
    have x1 : (strOfNums Y).extract 0 k = strOfNums (Y.take k) := by rw [st_extract]; simp
    have x2 : (strOfNums Y).extract (k + 1) m = strOfNums (Y.drop (k + 1)) := by rw [st_extract, List.take_of_length_le (by rw [List.length_drop]; omega)]
    have y1 : (k : Int) ≤ (m : Int) := by omega
    have y2 : k ≤ m := by omega
    have y3 : IntKind.i64.wrap ((k : Int) + 1) = ((k + 1 : Nat) : Int) := by rw [IntKind.wrap_i64]; have := HX.out.2.2.2.2.2.2.2.1; omega
    have y4 : ((k + 1 : Nat) : Int) ≤ (m : Int) := by omega
    have y5 : k + 1 ≤ m := by omega
    have HSY : Hid (∀ W : World, Calls Tryz.prog 13 #[.string (strOfNums (Y.drop (k + 1)))] W fun e w' => e = .returned (.string (strOfNums ((Y.drop (k + 1)).map sml))) ∧ Below W.heap.size W w') := fun W => Rsmall_any (Y.drop (k + 1)) (HX.out.2.2.1.drop _) (by rw [List.length_drop]; have := HX.out.2.2.2.2.2.2.2.1; omega)
    obtain ⟨q1, h1'⟩ : ∃ q : Bool, decide (A = Y.take k) = q := ⟨_, rfl⟩
    have e1 : ((strOfNums A).toList == (strOfNums (Y.take k)).toList) = q1 := by rw [st_beq _ _ HX.out.1 (HX.out.2.2.1.take k), h1']
    rw [h1'] at HR
    have hE : ((strOfNums (H.map sml)).toList == (strOfNums ((Y.drop (k + 1)).map sml)).toList) = sameB H (Y.drop (k + 1)) := by
      rw [st_beq _ _ uHs (u8_sml (HX.out.2.2.1.drop _))]
      rfl
    obtain ⟨D, hD⟩ : ∃ D, (Y.drop (k + 1)).map sml = D := ⟨_, rfl⟩
    rw [hD] at HSY hE
    clear h1' HM uHs hKK hbd hD
    cases q1 with
    | false =>
      obtain rfl : R = false := HR.out
      go_wp2_with (go_at_call 17; refine (HLY.out _).mono ?_; rintro e w2 ⟨rfl, rfl⟩)
      go_ret
      exact ⟨rfl, HW.out⟩
    | true =>
      have hR' : sameB H (Y.drop (k + 1)) = R := HR.out.symm
      rw [hR'] at hE
      clear HR hR'
      go_wp2_with (first
        | (go_at_call 17; refine (HLY.out _).mono ?_; rintro e w2 ⟨rfl, rfl⟩)
        | (go_at_call 13; refine (HSY.out _).mono ?_; rintro e w3 ⟨rfl, hb3⟩))
      go_ret
      exact ⟨rfl, HW.out.trans (hb3.mono HW.out.size)⟩
end Go.Proofs.YtbgeemjnhkinaaaGreatDoor
