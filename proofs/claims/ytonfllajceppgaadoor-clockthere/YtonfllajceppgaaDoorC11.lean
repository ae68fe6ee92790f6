/-
  Clock: millionths; moments that are written with years of four digits.
-/
import Derived.Test.YtonfllajceppgaaDoorC10
namespace Go.Proofs.YtonfllajceppgaaDoor
open Go.RowKit
theorem strSuffix_any {w : World} {S T : ByteArray} {r : Bool} (h : ∀ w : World, Calls Tryd.prog 63 #[.string S, .string T] w fun e w' => e = .returned (.bool r) ∧ w = w') :
    Calls Tryd.prog 53 #[.string S, .string T] w fun e w' => e = .returned (.bool r) ∧ w = w' := by
  have HC : Hid _ := h
  clear h
  go_enter Tryd.func53, Tryd.ntmps53
  go_wp2_with fail
  refine (HC.out _).mono ?_
  rintro e w' ⟨rfl, rfl⟩
  go_wp2
  go_ret
  exact ⟨rfl, rfl⟩
/-- what stands behind a point -/
def MilOk (B : List Int) : Prop := 1 ≤ B.length ∧ B.length ≤ 6 ∧ (∀ Y, B ≠ Y ++ [48]) ∧ Dgs B
def MilIs (B : List Int) (e : Ending) : Prop :=
  (MilOk B ∧ e = .returned (.tuple #[.int .i64 (nval (B ++ zeros (6 - B.length))), .bool true])) ∨ (¬ MilOk B ∧ e = .returned (.tuple #[.int .i64 0, .bool false]))
theorem zeros_dg (k : Nat) : Dgs (zeros k) := fun x hx => by rw [List.eq_of_mem_replicate hx]; unfold Dg; omega
theorem dgs_app {A B : List Int} : Dgs (A ++ B) ↔ Dgs A ∧ Dgs B := by
  constructor
  · intro h; exact ⟨fun x hx => h x (List.mem_append_left _ hx), fun x hx => h x (List.mem_append_right _ hx)⟩
  · rintro ⟨h, k⟩ x hx
    rcases List.mem_append.1 hx with hx | hx
    · exact h x hx
    · exact k x hx
theorem dgs_u8 {A : List Int} (h : Dgs A) : U8s A := fun x hx => by have := h x hx; unfold Dg at this; unfold U8; omega
set_option maxRecDepth 100000 in
set_option maxHeartbeats 1000000 in
theorem millionthsOf_any {w : World} (B : List Int) (hU : U8s B) (hl : B.length ≤ 1000000000000) : Calls Tryd.prog 34 #[.string (strOfNums B)] w fun e w' => MilIs B e ∧ Below w.heap.size w w' := by
  obtain ⟨n, hn⟩ : ∃ n, B.length = n := ⟨_, rfl⟩
  obtain ⟨S, hS⟩ : ∃ S, strOfNums B = S := ⟨_, rfl⟩
  have zS : S.size = n := by rw [← hS, st_size, hn]
  have HL : Hid (B.length = n ∧ strOfNums B = S) := ⟨hn, hS⟩
  by_cases h1 : n < 1
  · have h1' : (n : Int) < 1 := by omega
    have HF : Hid (¬ MilOk B) := fun h => by have := h.1; omega
    rw [hS]; clear hS hn
    go_enter Tryd.func34, Tryd.ntmps34
    go_wp2
    go_ret2
    exact ⟨Or.inr ⟨HF.out, rfl⟩, Below.refl _ _⟩
  · have h1' : ¬ (n : Int) < 1 := by omega
    by_cases h6 : 6 < n
    · have h6' : (6 : Int) < (n : Int) := by omega
      have HF : Hid (¬ MilOk B) := fun h => by have := h.2.1; omega
      rw [hS]; clear hS hn
      go_enter Tryd.func34, Tryd.ntmps34
      go_wp2
      go_ret2
      exact ⟨Or.inr ⟨HF.out, rfl⟩, Below.refl _ _⟩
    · have h6' : ¬ (6 : Int) < (n : Int) := by omega
      rcases List.eq_nil_or_concat B with h | ⟨Y, z, h⟩
      · rw [h] at hn; simp at hn; omega
      · rw [List.concat_eq_append] at h
        have uz : U8 z := hU z (by rw [h]; simp)
        have HC : Hid (∀ w : World, Calls Tryd.prog 53 #[.string S, .string ⟨#[48]⟩] w fun e w' => e = .returned (.bool (decide (z = 48))) ∧ w = w') := fun w => by
          rw [← hS, h]
          exact strSuffix_any fun w => hasSuffix_snoc Y z 48 uz u48 (by rw [h] at hl; simp at hl; omega)
        by_cases hz : z = 48
        · have HF : Hid (¬ MilOk B) := fun k => k.2.2.1 Y (by rw [h, hz])
          rw [hS]; clear hS hn h
          simp only [hz, decide_true] at HC
          go_enter Tryd.func34, Tryd.ntmps34
          go_wp2_with (go_at_call 53; refine (HC.out _).mono ?_; rintro e w' ⟨rfl, rfl⟩)
          go_ret2
          exact ⟨Or.inr ⟨HF.out, rfl⟩, Below.refl _ _⟩
        · have HF : Hid (∀ Y, B ≠ Y ++ [48]) := fun Y' k => by
            rw [h] at k
            have := List.append_inj_right' k rfl
            simp at this; exact hz this
          have HA : Hid (S ++ strOfNums (zeros (6 - n)) = strOfNums (B ++ zeros (6 - n))) := by
            show _ = _
            rw [← hS]; exact st_append _ _
          have HN : Hid (∀ w : World, Calls Tryd.prog 33 #[.string (strOfNums (B ++ zeros (6 - n))), .int .i64 6] w fun e w' => NumIs (B ++ zeros (6 - n)) 6 e ∧ Below w.heap.size w w') := fun w =>
            number_any (B ++ zeros (6 - n)) 6 (hU.append (dgs_u8 (zeros_dg _))) (by omega)
          obtain ⟨k, hk⟩ : ∃ k, 6 - n = k := ⟨_, rfl⟩
          have hkI : (6 : Int) - (n : Int) = (k : Int) := by omega
          have hk14 : k ≤ 14 := by omega
          have zZ : (strOfNums (zeros k)).size = k := by rw [st_size]; simp [zeros]
          have hn6 : n ≤ 6 := by omega
          rw [hk] at HA HN
          rw [hS]; clear hS hn h
          simp only [hz, decide_false] at HC
          go_enter Tryd.func34, Tryd.ntmps34
          go_wp2_with (first
            | (go_at_call 53; refine (HC.out _).mono ?_; rintro e w' ⟨rfl, rfl⟩)
            | (go_at_call 26; refine (Repeat_k k hk14).mono ?_; rintro e w' ⟨rfl, rfl⟩))
          rw [HA.out]
          refine (HN.out _).mono ?_
          rintro e w1 ⟨hN, hb⟩
          obtain ⟨v1, v2, he⟩ : ∃ v1 v2, e = .returned (.tuple #[.int .i64 v1, .bool v2]) := by
            rcases hN with ⟨_, _, h⟩ | ⟨_, h⟩ <;> exact ⟨_, _, h⟩
          have H2 : Hid (NumIs (B ++ zeros k) 6 e ∧ Below w.heap.size w w1 ∧ B.length = n ∧ 6 - n = k) := ⟨hN, hb, HL.out.1, hk⟩
          subst he
          clear hN hb
          go_wp2
          go_ret2
          refine ⟨?_, H2.out.2.1⟩
          obtain ⟨hN, _, hn, hk⟩ := H2.out
          have hlen : (B ++ zeros k).length = 6 := by rw [List.length_append, hn]; simp [zeros]; omega
          rcases hN with ⟨_, hD, hE⟩ | ⟨hF, hE⟩
          · refine Or.inl ⟨⟨by omega, by omega, HF.out, (dgs_app.1 hD).1⟩, ?_⟩
            rw [hn, hk]; exact hE
          · refine Or.inr ⟨fun h => hF ⟨hlen, dgs_app.2 ⟨h.2.2.2, zeros_dg _⟩⟩, hE⟩
end Go.Proofs.YtonfllajceppgaaDoor
