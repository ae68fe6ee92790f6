/-
  Text: two bytes a character.
-/
import Derived.Laws.BitsAllLaws
import Derived.Test.YtkjdihikcgpababDoorK21
namespace Go.Proofs.YtkjdihikcgpababDoor
open Go.RowKit
def nums (l : List UInt8) : List Int := l.map fun b => (b.toNat : Int)
theorem nums_len (l : List UInt8) : (nums l).length = l.length := by simp [nums]
theorem nums_u8 (l : List UInt8) : U8s (nums l) := by
  intro x hx
  obtain ⟨b, _, rfl⟩ := List.mem_map.1 hx
  have := b.toNat_lt
  exact ⟨by omega, by omega⟩
theorem nums_get (l : List UInt8) (i : Nat) (h : i < l.length) : (nums l).getD i 0 = ((l.getD i 0).toNat : Int) := by simp [nums, h]
theorem of_nums (X : List Int) (h : U8s X) : ∃ l, nums l = X := by
  refine ⟨X.map fun n => UInt8.ofNat n.toNat, ?_⟩
  unfold nums
  rw [List.map_map]
  apply List.ext_getElem
  · simp
  · intro i h1 h2
    simp
    have := h (X[i]) (List.getElem_mem _)
    unfold U8 at this
    omega
def pairsB : List UInt8 → Option (List UInt8)
  | [] => some []
  | [_] => none
  | a :: b :: t => if 55296 ≤ a.toNat * 256 + b.toNat ∧ a.toNat * 256 + b.toNat ≤ 57343 then none else (pairsB t).map (Lib.encodeRune ((a.toNat * 256 + b.toNat : Nat) : Int) ++ ·)
theorem pairs_odd : ∀ l : List UInt8, l.length % 2 = 1 → pairsB l = none
  | [], h => by simp at h
  | [_], _ => rfl
  | a :: b :: t, h => by
    have := pairs_odd t (by simp at h; omega)
    unfold pairsB
    rw [this]; split <;> rfl
theorem drop_two (l : List UInt8) (i : Nat) (h : i + 1 < l.length) : l.drop i = l.getD i 0 :: l.getD (i + 1) 0 :: l.drop (i + 2) := by
  rw [List.drop_eq_getElem_cons (by omega), List.drop_eq_getElem_cons (by omega)]
  simp [show i < l.length by omega, h]
def PairIs (l : List UInt8) (e : Ending) : Prop :=
  (∃ t, pairsB l = some t ∧ e = .returned (.tuple #[.string (str t), .bool true])) ∨ (pairsB l = none ∧ e = .returned (.tuple #[.string ⟨#[]⟩, .bool false]))
theorem or_pair (a b : Nat) (ha : a < 256) (hb : b < 256) : bits .or .i32 ((a : Int) * 256) (b : Int) = ((a * 256 + b : Nat) : Int) := by
  have e : ((a * 256 : Nat) : Int) = (a : Int) * 256 := by simp
  have ho : a * 256 ||| b = a * 256 + b := by rw [Nat.mul_comm, show (256 : Nat) = 2 ^ 8 from rfl, ← Nat.two_pow_add_eq_or_of_lt hb a]
  show IntKind.i32.wrap ((BitVec.ofInt 32 ((a : Int) * 256) ||| BitVec.ofInt 32 (b : Int)).toNat : Int) = _
  rw [← e, BitVec.toNat_or, ofInt_u32 _ (by omega), ofInt_u32 _ (by omega), ho]
  unfold IntKind.wrap
  simp [IntKind.bits, IntKind.signed]
  omega
set_option maxHeartbeats 4000000 in
set_option maxRecDepth 100000 in
theorem fromPairs_any {w : World} (v : Value) (l : List UInt8) (hX : Sl .u8 w v (nums l)) (hl : l.length ≤ 100000) :
    Calls Tryd.prog 66 #[v] w fun e w' => PairIs l e ∧ Below w.heap.size w w' := by
  obtain ⟨a, c, rfl, hc, hr⟩ := hX
  rw [nums_len]
  obtain ⟨n, hn⟩ : ∃ n, l.length = n := ⟨_, rfl⟩
  rw [nums_len, hn] at hc
  by_cases hodd : n % 2 = 1
  · have e1 : (n : Int) % 2 = 1 := by omega
    rw [hn]
    go_enter Tryd.func66, Tryd.ntmps66
    go_wp2
    go_ret2
    exact ⟨.inr ⟨pairs_odd l (by omega), rfl⟩, Below.refl _ _⟩
  · have e1 : (n : Int) % 2 = 0 := by omega
    rw [hn]
    have HN : Hid (l.length = n ∧ n % 2 = 0) := ⟨hn, by omega⟩
    have hln : (n : Int) ≤ 100000 := by omega
    have hcn : (n : Int) ≤ (c : Int) := by omega
    have HR : Hid _ := hr
    clear hn hr hl hodd hc
    go_enter Tryd.func66, Tryd.ntmps66
    go_wp2
    clear e1
    go_loopw [5] (fun iv wr => ∃ (i : Nat) (acc : List UInt8), iv = .int .i64 i ∧ i ≤ n ∧ i % 2 = 0 ∧ Bld w.heap.size w.heap.size acc wr ∧ Below w.heap.size w wr ∧ 2 * acc.length ≤ 3 * i ∧ pairsB l = (pairsB (l.drop i)).map (acc ++ ·)) (fun iv _ => n - (intOf iv).toNat)
    case atStart =>
      refine ⟨0, [], rfl, Nat.zero_le _, rfl, Lib.IsBuilderF.of (Lib.fresh_isBuilder _ _ w), al1 _, Nat.le_refl _, ?_⟩
      cases h : pairsB l <;> simp [h]
    case round =>
      obtain ⟨i, acc, rfl, hi, hi2, hB, hb, hal, hpr⟩ := hrel
      have HX : Hid (Bld w.heap.size w.heap.size acc wr ∧ Below w.heap.size w wr) := ⟨hB, hb⟩
      have HA : Hid (2 * acc.length ≤ 3 * i) := hal
      have HP : Hid (pairsB l = (pairsB (l.drop i)).map (acc ++ ·)) := hpr
      have HI : Hid (i % 2 = 0) := hi2
      clear hB hb hal hpr hi2
      by_cases hlt : i < n
      · have i1 : i + 1 < n := by have := HI.out; have := HN.out; omega
        have z1 : (i : Int) < (n : Int) := by omega
        have z2 : (i : Int) + 1 < (n : Int) := by omega
        rcases HR.out with h0 | ⟨b, off, rfl, hbl, hrd⟩
        · have := congrArg List.length h0
          rw [nums_len, HN.out.1] at this
          simp at this; omega
        have c1 : wr.cell? ⟨b, off + i, none⟩ = some (.int .u8 (l.getD i 0).toNat) := by
          have := (below_rd HX.out.2 hbl hrd) i (by rw [nums_len, HN.out.1]; omega)
          rw [nums_get l i (by rw [HN.out.1]; omega)] at this; exact this
        have c2 : wr.cell? ⟨b, off + (i + 1), none⟩ = some (.int .u8 (l.getD (i + 1) 0).toNat) := by
          have := (below_rd HX.out.2 hbl hrd) (i + 1) (by rw [nums_len, HN.out.1]; omega)
          rw [nums_get l (i + 1) (by rw [HN.out.1]; omega)] at this; exact this
        have hdr := drop_two l i (by rw [HN.out.1]; omega)
        obtain ⟨x, hx⟩ : ∃ x, l.getD i 0 = x := ⟨_, rfl⟩
        obtain ⟨y, hy⟩ : ∃ y, l.getD (i + 1) 0 = y := ⟨_, rfl⟩
        rw [hx] at c1 hdr
        rw [hy] at c2 hdr
        have HD : Hid (l.drop i = x :: y :: l.drop (i + 2)) := hdr
        have x1 : (x.toNat : Int) < 256 := by have := x.toNat_lt; omega
        have y1 : (y.toNat : Int) < 256 := by have := y.toNat_lt; omega
        have w1 : IntKind.i64.wrap ((i : Int) + 1) = (i : Int) + 1 := wrap_small _ (by omega) (by omega)
        have t1 : ((i : Int) + 1).toNat = i + 1 := by omega
        have hor := or_pair x.toNat y.toNat x.toNat_lt y.toNat_lt
        obtain ⟨R, hR⟩ : ∃ R : Nat, x.toNat * 256 + y.toNat = R := ⟨_, rfl⟩
        rw [hR] at hor
        have r1 : R < 65536 := by have := x.toNat_lt; have := y.toNat_lt; omega
        have HRR : Hid (x.toNat * 256 + y.toNat = R) := hR
        clear hrd hbl hdr hx hy hR
        go_wp2_with fail
        go_quiet (fail)
        go_upto_region 8 with (fail)
        clear c1 c2 hor w1 t1 x1 y1
        have hb1 : Below wr.heap.size wr (wr.drewN nq) := ⟨rfl, rfl, rfl, Nat.le_refl _, fun _ _ => rfl⟩
        refine wp_gen (fun W => Bld w.heap.size w.heap.size acc W ∧ Below w.heap.size w W) ⟨HX.out.1.below hb1, below_via HX.out.2 hb1 (Nat.le_refl _)⟩ ?_
        rintro W1 ⟨hB1, hbw1⟩
        have H1 : Hid (Bld w.heap.size w.heap.size acc W1 ∧ Below w.heap.size w W1) := ⟨hB1, hbw1⟩
        clear hB1 hbw1 hb1
        by_cases hsur : 55296 ≤ R ∧ R ≤ 57343
        · have HV : Hid (∀ w, Calls Tryd.prog 74 #[.int .i32 R] w fun e w' => e = .returned (.bool false) ∧ w = w') := fun w => by
            have := Tryd.utf8_ValidRune R w
            rw [show Lib.validRune (R : Int) = false by unfold Lib.validRune; simp; omega] at this
            exact this.mono fun e w' h => ⟨h.1, h.2.symm⟩
          have HE : Hid (pairsB l = none) := by
            show _ = _
            rw [HP.out, HD.out]
            unfold pairsB
            rw [HRR.out, if_pos hsur]; rfl
          clear hsur
          go_wp2_with (go_at_call 74; refine (HV.out _).mono ?_; rintro e w' ⟨rfl, rfl⟩)
          go_ret2
          exact ⟨.inr ⟨HE.out, rfl⟩, H1.out.2⟩
        · have HV : Hid (∀ w, Calls Tryd.prog 74 #[.int .i32 R] w fun e w' => e = .returned (.bool true) ∧ w = w') := fun w => by
            have := Tryd.utf8_ValidRune R w
            rw [show Lib.validRune (R : Int) = true by unfold Lib.validRune; simp; omega] at this
            exact this.mono fun e w' h => ⟨h.1, h.2.symm⟩
          have HE : Hid (pairsB l = (pairsB (l.drop (i + 2))).map ((acc ++ Lib.encodeRune (R : Int)) ++ ·)) := by
            show _ = _
            rw [HP.out, HD.out]
            rw [show pairsB (x :: y :: l.drop (i + 2)) = (pairsB (l.drop (i + 2))).map (Lib.encodeRune (R : Int) ++ ·) by rw [pairsB, HRR.out, if_neg hsur]]
            cases pairsB (l.drop (i + 2)) <;> simp
          have HL : Hid ((Lib.encodeRune (R : Int)).length ≤ 3) := by
            show _ ≤ _
            unfold Lib.encodeRune Lib.encodeRuneZ
            rw [List.length_map]
            repeat' split
            all_goals simp
            all_goals omega
          clear hsur
          go_wp2_with (go_at_call 74; refine (HV.out _).mono ?_; rintro e w' ⟨rfl, rfl⟩)
          refine (WriteRune_k w.heap.size w.heap.size acc (R : Int) (by omega) (by omega) H1.out.1 (by have := HA.out; omega) H1.out.2.size).mono ?_
          rintro e W2 ⟨⟨nn, rfl⟩, hB2, hb2, _⟩
          have H2 : Hid (Bld w.heap.size w.heap.size (acc ++ Lib.encodeRune (R : Int)) W2 ∧ Below w.heap.size w W2) := ⟨hB2, H1.out.2.trans hb2⟩
          clear hB2 hb2
          go_wp2
          go_roundw
          case rel => exact ⟨i + 2, _, by go_num, by omega, by have := HI.out; omega, H2.out.1, H2.out.2, by have := HA.out; have := HL.out; rw [List.length_append]; omega, HE.out⟩
          case measure => simp [intOf]; omega
      · have hin : i = n := by omega
        subst hin
        have HE : Hid (pairsB l = some acc) := by
          show _ = _
          rw [HP.out, List.drop_of_length_le (by rw [HN.out.1]; omega)]
          simp [pairsB]
        clear hlt
        go_wp2_with fail
        refine (Tryd.Builder_String_any_k w.heap.size w.heap.size acc _ HX.out.1 HX.out.2.size).mono ?_
        rintro e W1 ⟨rfl, _, b1, _⟩
        go_wp2
        go_ret2
        exact ⟨.inl ⟨acc, HE.out, rfl⟩, HX.out.2.trans b1⟩
end Go.Proofs.YtkjdihikcgpababDoor
