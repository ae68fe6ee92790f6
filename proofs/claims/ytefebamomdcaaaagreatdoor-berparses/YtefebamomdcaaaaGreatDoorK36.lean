/-
  The law BerOwn: what is read shares nothing with the bytes, nor one element with another; a tree in the one way shares nothing with the row.
-/
import Derived.Test.YtefebamomdcaaaaGreatDoorK35
namespace Go.Proofs.YtefebamomdcaaaaGreatDoor
open Go.RowKit
theorem prF_good {M : List Int} (hM : U8s M) : ∀ (f p q : Nat) (S : List Prt) (L : List Te) (R : Nat × List Te), L.length ≤ 65536 → (∀ x ∈ L, U8s x.d ∧ x.d.length ≤ M.length) → prF M f p q S L = .inr R → R.2.length ≤ 65536 ∧ ∀ x ∈ R.2, U8s x.d ∧ x.d.length ≤ M.length
  | 0, _, _, _, _, _, _, _, h => by simp [prF] at h
  | f + 1, p, q, S, L, R, hL, hP, h => by
    rw [prF] at h
    cases hb : belS M p q L.length S.length with
    | inl e => rw [hb] at h; cases h
    | inr r =>
      obtain ⟨t, l, j⟩ := r
      rw [hb] at h
      have h1 := belS_many hb
      have hL' : (L ++ [belE M p S.length t l j]).length ≤ 65536 := by rw [List.length_append, List.length_singleton]; omega
      have hP' : ∀ x ∈ L ++ [belE M p S.length t l j], U8s x.d ∧ x.d.length ≤ M.length := by
        intro x hx
        rcases List.mem_append.1 hx with hx | hx
        · exact hP x hx
        · rw [List.mem_singleton] at hx
          subst hx
          unfold belE
          simp only []
          split
          · exact ⟨(by intro y hy; cases hy), by simp⟩
          · refine ⟨(hM.drop j).take _, ?_⟩
            rw [List.length_take, List.length_drop]; omega
      simp only [] at h
      split at h
      · cases h; exact ⟨hL', hP'⟩
      · exact prF_good hM f _ _ _ _ R hL' hP' h
theorem parse_good {M : List Int} (hM : U8s M) {L : List Te} (h : parseS M = .inr L) : L.length ≤ 65536 ∧ ∀ x ∈ L, U8s x.d ∧ x.d.length ≤ M.length := by
  unfold parseS at h
  split at h
  · cases h
  cases hp : pr M 0 M.length [] [] with
  | inl x => rw [hp] at h; cases h
  | inr x =>
    have h1 := prF_good hM _ _ _ _ _ x (by simp) (by simp) hp
    obtain ⟨p, L'⟩ := x
    rw [hp] at h
    simp only [] at h
    split at h
    · cases h
    · cases h; exact h1
theorem datL_le {m : Nat} : ∀ {L : List Te}, (∀ x ∈ L, x.d.length ≤ m) → datL L ≤ L.length * m
  | [], _ => by simp [datL]
  | x :: r, h => by
    have h1 := h x (List.mem_cons_self ..)
    have h2 := datL_le (L := r) fun y hy => h y (List.mem_cons_of_mem _ hy)
    simp only [datL, List.length_cons]
    rw [Nat.add_mul]; omega
/-- What Normal answers, told at once. -/
theorem NrOut.uni {B : Nat} {w : World} {e : Ending} {L : List Te} (h : NrOut B w e L) (hL : L.length ≤ 65536) (hd : datL L ≤ 131072000) : ∃ v er at_ L', e = .returned (.tuple #[v, .int .i64 er, .int .i64 at_]) ∧ Elems B w v L' ∧ L'.length ≤ 65536 ∧ datL L' ≤ 131137536 := by
  rcases h with ⟨_, rfl⟩ | ⟨_, er, i, _, rfl⟩ | ⟨_, _, v, L', rfl, hN, hE⟩
  · exact ⟨_, _, _, [], rfl, Elems.nil _ _, by simp, by simp [datL]⟩
  · exact ⟨_, _, _, [], rfl, Elems.nil _ _, by simp, by simp [datL]⟩
  · have h1 := nrm_dat hN
    have h2 : datL (setL L) ≤ datL L + L.length := set_dat _ _
    have h3 : (setL L).length ≤ L.length := setF_len _ _
    exact ⟨v, _, _, L', rfl, hE, by omega, by omega⟩
theorem u8s1234 : U8s [1, 2, 3, 4] := by intro x hx; unfold U8; simp at hx; omega
end Go.Proofs.YtefebamomdcaaaaGreatDoor
/-
  The law BerParses: any bytes as a tree, or the first fault and its place, as the reference tells it; the bytes stay.
-/
namespace Go.Proofs.YtefebamomdcaaaaGreatDoor
open Go.RowKit
set_option maxRecDepth 20000 in
set_option maxHeartbeats 8000000 in
theorem BerParses_any {w : World} (hG : GlbE w) (a : Option Addr) (n c : Nat) (M : List Int) (hM : Sl .u8 w (.slice a n c) M) (uM : U8s M) (hn : n ≤ 9223372036854775807) :
    Calls Tryz.prog 3 #[.slice a n c] w fun e w' => e = .returned (.bool true) ∧ Below w.heap.size w w' := by
  have HX : Hid (GlbE w ∧ Sl .u8 w (.slice a n c) M ∧ U8s M ∧ M.length = n) := ⟨hG, hM, uM, hM.lens.1.symm⟩
  have HL : Hid (∀ W : World, Below w.heap.size w W → Calls Tryz.prog 9 #[] W fun e w' => e = .returned (.bool true) ∧ Below W.heap.size W w') := fun W hW => live03_any (HX.out.1.below hW)
  have hnI : (n : Int) ≤ 9223372036854775807 := by omega
  clear hG hM uM
  by_cases h1 : 16384 < n
  · have h1I : (16384 : Int) < (n : Int) := by omega
    go_enter Tryz.func3, Tryz.ntmps3
    go_wp2_with fail
    refine (HL.out w (Below.refl _ _)).mono ?_
    rintro e w1 ⟨rfl, hb⟩
    go_wp2
    go_ret
    exact ⟨rfl, hb⟩
  have h1I : ¬ (16384 : Int) < (n : Int) := by omega
  go_enter Tryz.func3, Tryz.ntmps3
  go_wp2_with fail
  refine (Lent8_n M _ w n HX.out.2.2.2 HX.out.2.1 (by omega)).mono ?_
  rintro e w1 ⟨bl, Sl1, cl1, rfl, hlent, -, -, -, hb1⟩
  have H1 : Hid (LentR8 w.heap.size w1 (.slice (some ⟨bl, 0, none⟩) n cl1) M ∧ Below w.heap.size w w1) := ⟨hlent, hb1⟩
  clear hlent hb1
  go_wp2_with fail
  refine (Parse_any (HX.out.1.below H1.out.2) _ M H1.out.1.sl HX.out.2.2.1 (by have := HX.out.2.2.2; omega)).mono ?_
  rintro e w2 ⟨hps, hb2⟩
  have H2 : Hid (Below w.heap.size w w2 ∧ Below w1.heap.size w1 w2 ∧ LentR8 w.heap.size w2 (.slice (some ⟨bl, 0, none⟩) n cl1) M) := ⟨below_via H1.out.2 hb2 (Nat.le_refl _), hb2, H1.out.1.below hb2⟩
  have hs2 : w.heap.size ≤ w1.heap.size := H1.out.2.size
  clear hb2
  cases hp : parseS M with
  | inl ea =>
    obtain ⟨er, at_⟩ := ea
    rw [hp] at hps
    unfold PsOut at hps
    subst hps
    have HP : Hid (parseS M = .inl (er, at_)) := hp
    clear hp
    go_wp2_with fail
    refine (RParse_any _ M (below_sl H2.out.1 HX.out.2.1) HX.out.2.2.1 (by have := HX.out.2.2.2; omega)).mono ?_
    rintro e w3 ⟨hps, hb3⟩
    rw [HP.out] at hps
    unfold PsOut at hps
    subst hps
    have H3 : Hid (Below w.heap.size w w3 ∧ LentR8 w.heap.size w3 (.slice (some ⟨bl, 0, none⟩) n cl1) M) := ⟨below_via H2.out.1 hb3 (Nat.le_refl _), H2.out.2.2.below hb3⟩
    clear hb3
    go_wp2_with fail
    refine (Same_any (.slice none 0 0) (.slice none 0 0) [] (Elems.nil 0 _).s (Elems.nil 0 _).s (by simp) (by simp)).mono ?_
    rintro e w4 ⟨rfl, hb4⟩
    have H4 : Hid (Below w.heap.size w w4 ∧ LentR8 w.heap.size w4 (.slice (some ⟨bl, 0, none⟩) n cl1) M) := ⟨below_via H3.out.1 hb4 (Nat.le_refl _), H3.out.2.below hb4⟩
    clear hb4
    go_wp2_with fail
    refine (num3_any _).mono ?_
    rintro e w' ⟨rfl, rfl⟩
    go_wp2_with fail
    refine (Kept8_any _ _ M H4.out.2 (below_sl H4.out.1 HX.out.2.1) (by have := HX.out.2.2.2; omega)).mono ?_
    rintro e w5 ⟨rfl, hb5⟩
    have H5 : Hid (Below w.heap.size w w5) := below_via H4.out.1 hb5 (Nat.le_refl _)
    clear hb5
    go_wp2_with fail
    refine (HL.out _ H5.out).mono ?_
    rintro e w6 ⟨rfl, hb6⟩
    go_wp2
    go_ret
    exact ⟨rfl, below_via H5.out hb6 (Nat.le_refl _)⟩
  | inr L =>
    rw [hp] at hps
    obtain ⟨v, rfl, hE⟩ := hps
    have hg := parse_good HX.out.2.2.1 hp
    have HP : Hid (parseS M = .inr L ∧ L.length ≤ 65536 ∧ (∀ x ∈ L, x.d.length ≤ 1152921504606846976) ∧ Elems w1.heap.size w2 v L) := ⟨hp, hg.1, fun x hx => by have := (hg.2 x hx).2; have := HX.out.2.2.2; omega, hE⟩
    clear hp hg hE
    rw [HX.out.2.2.2]
    go_wp2_with fail
    refine (RParse_any _ M (below_sl H2.out.1 HX.out.2.1) HX.out.2.2.1 (by have := HX.out.2.2.2; omega)).mono ?_
    rintro e w3 ⟨hps, hb3⟩
    rw [HP.out.1] at hps
    obtain ⟨u, rfl, hE⟩ := hps
    rw [HX.out.2.2.2]
    have H3 : Hid (Below w.heap.size w w3 ∧ LentR8 w.heap.size w3 (.slice (some ⟨bl, 0, none⟩) n cl1) M ∧ ElS w3 v L ∧ ElS w3 u L) := ⟨below_via H2.out.1 hb3 (Nat.le_refl _), H2.out.2.2.below hb3, HP.out.2.2.2.s.below hb3, hE.s⟩
    clear hb3 hE
    go_wp2_with fail
    refine (Same_any _ _ L H3.out.2.2.1 H3.out.2.2.2 (by have := HP.out.2.1; omega) HP.out.2.2.1).mono ?_
    rintro e w4 ⟨rfl, hb4⟩
    have H4 : Hid (Below w.heap.size w w4 ∧ LentR8 w.heap.size w4 (.slice (some ⟨bl, 0, none⟩) n cl1) M) := ⟨below_via H3.out.1 hb4 (Nat.le_refl _), H3.out.2.1.below hb4⟩
    clear hb4
    go_wp2_with fail
    refine (num3_any _).mono ?_
    rintro e w' ⟨rfl, rfl⟩
    go_wp2_with fail
    refine (Kept8_any _ _ M H4.out.2 (below_sl H4.out.1 HX.out.2.1) (by have := HX.out.2.2.2; omega)).mono ?_
    rintro e w5 ⟨rfl, hb5⟩
    have H5 : Hid (Below w.heap.size w w5) := below_via H4.out.1 hb5 (Nat.le_refl _)
    clear hb5
    go_wp2_with fail
    refine (HL.out _ H5.out).mono ?_
    rintro e w6 ⟨rfl, hb6⟩
    go_wp2
    go_ret
    exact ⟨rfl, below_via H5.out hb6 (Nat.le_refl _)⟩
end Go.Proofs.YtefebamomdcaaaaGreatDoor
