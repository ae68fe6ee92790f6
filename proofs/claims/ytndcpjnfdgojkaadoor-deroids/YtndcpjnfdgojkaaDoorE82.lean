/-
  Der: the law DerOids.
-/
import Derived.Test.YtndcpjnfdgojkaaDoorE81
import Derived.Test.YtndcpjnfdgojkaaDoorE13
namespace Go.Proofs.YtndcpjnfdgojkaaDoor
open Go.RowKit
theorem of_str (S : ByteArray) : ∃ Y, U8s Y ∧ Y.length = S.size ∧ strOfNums Y = S := by
  refine ⟨S.data.toList.map (fun b => (b.toNat : Int)), ?_, ?_, ?_⟩
  · intro x hx
    obtain ⟨b, _, rfl⟩ := List.mem_map.1 hx
    have := b.toNat_lt
    unfold U8
    omega
  · simp
  · unfold strOfNums
    congr 1
    apply Array.ext'
    simp only [List.map_map]
    refine (List.map_congr_left (g := id) (fun b _ => ?_)).trans (List.map_id _)
    simp
theorem PutR.len {Y b : List Int} {er : Int} (h : PutR Y b er) (hl : Y.length ≤ 2000) : b.length ≤ 16384 := by
  rcases h with ⟨_, rfl, _⟩ | ⟨A, _, _, _, rfl, _⟩ | ⟨A, hA, hok, hlg, rfl, _⟩
  · simp
  · simp
  · have h1 := arcsP_len hA
    unfold putOk at hok
    simp only [decide_eq_true_eq] at hok
    have hall : ∀ u ∈ A, u ≤ 2147483647 := by
      intro u hu
      unfold putLong at hlg
      rw [List.any_eq_false] at hlg
      have := hlg u hu
      simp at this; omega
    have h2 : A.getD 1 0 ≤ 2147483647 := by
      rw [List.getD_eq_getElem?_getD, List.getElem?_eq_getElem (by omega)]
      exact hall _ (List.getElem_mem _)
    have h3 := sevL_len (40 * A.getD 0 0 + A.getD 1 0) (by omega)
    have h4 := flat_len (A.drop 2) (fun v hv => by have := hall v (List.mem_of_mem_drop hv); omega)
    rw [List.length_drop] at h4
    unfold putB
    rw [List.length_append]
    omega
set_option maxRecDepth 20000 in
set_option maxHeartbeats 4000000 in
theorem DerOids_any {w : World} (a : Option Addr) (n c : Nat) (X : List Int) (S : ByteArray) (hX : Sl .u8 w (.slice a n c) X) (uX : U8s X) (lX : X.length = n) (hn0 : n ≤ 9223372036854775807) (hs0 : S.size ≤ 9223372036854775807) (hT : Tab w) (hP : P10 w) :
    Calls Tryd.prog 5 #[.slice a n c, .string S] w fun e w' => e = .returned (.bool true) ∧ Below w.heap.size w w' := by
  obtain ⟨Y, uY, lY, hY⟩ := of_str S
  obtain ⟨m, hm⟩ : ∃ m, S.size = m := ⟨_, rfl⟩
  have hmI : (S.size : Int) = (m : Int) := by omega
  have HX : Hid (Sl .u8 w (.slice a n c) X ∧ U8s X ∧ X.length = n ∧ Tab w ∧ P10 w ∧ U8s Y ∧ Y.length = m ∧ strOfNums Y = S) := ⟨hX, uX, lX, hT, hP, uY, by omega, hY⟩
  clear hX uX lX hT hP uY lY hY
  by_cases hn : n ≤ 2000
  · have hnI : ¬ (2000 : Int) < (n : Int) := by omega
    by_cases hmn : m ≤ 2000
    · have hmI2 : ¬ (2000 : Int) < (m : Int) := by omega
      go_enter Tryd.func5, Tryd.ntmps5
      go_wp2_with fail
      refine (Oid_any _ X HX.out.1 HX.out.2.1 (by have := HX.out.2.2.1; omega) HX.out.2.2.2.2.1).mono ?_
      rintro e w1 ⟨⟨s1, e1, hr1, rfl⟩, hb1⟩
      have H1 : Hid (OidR X s1 e1 ∧ Below w.heap.size w w1) := ⟨hr1, hb1⟩
      clear hr1 hb1
      go_wp2_with fail
      refine (ROid_any _ X (below_sl H1.out.2 HX.out.1) HX.out.2.1 (by have := HX.out.2.2.1; omega)).mono ?_
      rintro e w2 ⟨⟨s2, e2, hr2, rfl⟩, hb2⟩
      obtain ⟨rfl, rfl⟩ := hr2.uniq H1.out.1
      have H2 : Hid (Below w.heap.size w w2) := below_via H1.out.2 hb2 (Nat.le_refl _)
      clear hr2 hb2
      obtain ⟨q, hq⟩ : ∃ q, strOfNums s2 = q := ⟨_, rfl⟩
      rw [hq]
      clear hq
      go_wp2_with fail
      rw [← HX.out.2.2.2.2.2.2.2]
      refine (PutOid_any Y HX.out.2.2.2.2.2.1 (by have := HX.out.2.2.2.2.2.2.1; omega)).mono ?_
      rw [HX.out.2.2.2.2.2.2.2]
      rintro e w3 ⟨⟨r3, b3, e3, hp3, rfl, hs3⟩, hb3⟩
      have H3 : Hid (PutR Y b3 e3 ∧ Sl .u8 w3 r3 b3 ∧ Below w.heap.size w w3) := ⟨hp3, hs3, below_via H2.out hb3 (Nat.le_refl _)⟩
      clear hp3 hs3 hb3
      go_wp2_with fail
      rw [← HX.out.2.2.2.2.2.2.2]
      refine (RPutOid_any Y HX.out.2.2.2.2.2.1 (by have := HX.out.2.2.2.2.2.2.1; omega)).mono ?_
      rw [HX.out.2.2.2.2.2.2.2]
      rintro e w4 ⟨⟨r4, b4, e4, hp4, rfl, hs4⟩, hb4⟩
      obtain ⟨rfl, rfl⟩ := hp4.uniq H3.out.1
      have H4 : Hid (PutR Y b4 e4 ∧ Sl .u8 w4 r3 b4 ∧ Sl .u8 w4 r4 b4 ∧ Below w.heap.size w w4) := ⟨hp4, below_sl hb4 H3.out.2.1, hs4, below_via H3.out.2.2 hb4 (Nat.le_refl _)⟩
      clear hp4 hs4 hb4
      go_wp2_with (first
        | (go_at_call 15; refine (num4_any _ _).mono ?_; rintro e w' ⟨rfl, rfl⟩))
      refine (SameBytes_any _ _ b4 H4.out.2.1 H4.out.2.2.1 (by have := H4.out.1.len (by have := HX.out.2.2.2.2.2.2.1; omega); omega)).mono ?_
      rintro e w5 ⟨rfl, hb5⟩
      have H5 : Hid (Below w.heap.size w w5) := below_via H4.out.2.2.2 hb5 (Nat.le_refl _)
      clear hb5
      go_wp2_with (first
        | (go_at_call 15; refine (num4_any _ _).mono ?_; rintro e w' ⟨rfl, rfl⟩)
        | (go_at_call 8; refine (live_any (HX.out.2.2.2.1.below H5.out)).mono ?_; rintro e w6 ⟨rfl, hb6⟩))
      go_ret
      exact ⟨rfl, below_via H5.out hb6 (Nat.le_refl _)⟩
    · have hmI2 : (2000 : Int) < (m : Int) := by omega
      go_enter Tryd.func5, Tryd.ntmps5
      go_wp2_with (go_at_call 8; refine (live_any HX.out.2.2.2.1).mono ?_; rintro e w8 ⟨rfl, hb8⟩)
      go_ret
      exact ⟨rfl, hb8⟩
  · have hnI : (2000 : Int) < (n : Int) := by omega
    go_enter Tryd.func5, Tryd.ntmps5
    go_wp2_with (go_at_call 8; refine (live_any HX.out.2.2.2.1).mono ?_; rintro e w8 ⟨rfl, hb8⟩)
    go_ret
    exact ⟨rfl, hb8⟩
end Go.Proofs.YtndcpjnfdgojkaaDoor
