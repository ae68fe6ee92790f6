/-
  Clock: ClockPuts.
-/
import Derived.Test.YtonfllajceppgaaDoorD5
namespace Go.Proofs.YtonfllajceppgaaDoor
open Go.RowKit
structure TabP (w : World) : Prop where
  tab : Tab w
  pw : P10 w
theorem TabP.below {w w' : World} (h : TabP w) (hb : Below w.heap.size w w') : TabP w' := ⟨h.tab.below hb, Tabs_below h.pw hb⟩
theorem gspec_uniq {sec micro : Int} {X X' : List Int} {e e' : Int} (h : GSpec sec micro X e) (h' : GSpec sec micro X' e') : X = X' ∧ e = e' := by
  rcases h with ⟨a, rfl, rfl⟩ | ⟨a, b, rfl, rfl⟩ | ⟨a, t, k, hs, rfl, rfl⟩
  · rcases h' with ⟨a', rfl, rfl⟩ | ⟨a', _⟩ | ⟨a', _⟩
    · exact ⟨rfl, rfl⟩
    · exact absurd a' a
    · exact absurd a' a
  · rcases h' with ⟨a', _⟩ | ⟨a', b', rfl, rfl⟩ | ⟨a', t', k', hs', _⟩
    · exact absurd a a'
    · exact ⟨rfl, rfl⟩
    · exact absurd (hs' ▸ Mo.sec_range k') b
  · rcases h' with ⟨a', _⟩ | ⟨a', b', _⟩ | ⟨a', t', k', hs', rfl, rfl⟩
    · exact absurd a a'
    · exact absurd (hs ▸ Mo.sec_range k) b'
    · rw [Mo.inj k k' (hs.trans hs'.symm)]; exact ⟨rfl, rfl⟩
theorem uspec_uniq {sec : Int} {X X' : List Int} {e e' : Int} (h : USpec sec X e) (h' : USpec sec X' e') : X = X' ∧ e = e' := by
  rcases h with ⟨a, rfl, rfl⟩ | ⟨a, t, k, hs, h⟩
  · rcases h' with ⟨a', rfl, rfl⟩ | ⟨a', _⟩
    · exact ⟨rfl, rfl⟩
    · exact absurd a' a
  · rcases h' with ⟨a', _⟩ | ⟨a', t', k', hs', h'⟩
    · exact absurd a a'
    · obtain rfl := Mo.inj k k' (hs.trans hs'.symm)
      rcases h with ⟨b, rfl, rfl⟩ | ⟨b, rfl, rfl⟩
      · rcases h' with ⟨b', rfl, rfl⟩ | ⟨b', _⟩
        · exact ⟨rfl, rfl⟩
        · exact absurd b' b
      · rcases h' with ⟨b', _⟩ | ⟨b', rfl, rfl⟩
        · exact absurd b b'
        · exact ⟨rfl, rfl⟩
theorem genX_len (t : Mo) (m : Nat) : (genX t m).length ≤ 30 := by
  unfold genX tailX
  have := fr_len m
  simp [wd_len]
  omega
theorem g_len {sec micro : Int} {X : List Int} {e : Int} (h : GSpec sec micro X e) : X.length ≤ 30 := by
  rcases h with ⟨_, rfl, _⟩ | ⟨_, _, rfl, _⟩ | ⟨_, t, _, _, rfl, _⟩
  · simp
  · simp
  · exact genX_len t _
theorem u_len {sec : Int} {X : List Int} {e : Int} (h : USpec sec X e) : X.length ≤ 30 := by
  rcases h with ⟨_, rfl, _⟩ | ⟨_, t, _, _, ⟨_, rfl, _⟩ | ⟨_, rfl, _⟩⟩
  · simp
  · simp
  · unfold utcX tailX; simp [wd_len]
set_option maxHeartbeats 2000000 in
set_option maxRecDepth 100000 in
theorem ClockPuts_any {w : World} (sec micro : Int) (hT : TabP w) : Calls Tryd.prog 3 #[.int .i64 sec, .int .i64 micro] w fun e w' => e = .returned (.bool true) ∧ Below w.heap.size w w' := by
  have HT : Hid (TabP w) := hT
  clear hT
  go_enter Tryd.func3, Tryd.ntmps3
  go_wp2_with fail
  refine (PutUtc_any sec HT.out.pw).mono ?_
  rintro e w1 ⟨X, err, hU, a, c, rfl, hS, hb⟩
  have hl := u_len hU
  have H1 : Hid (USpec sec X err ∧ Sl .u8 w1 (.slice a X.length c) X ∧ Below w.heap.size w w1 ∧ X.length ≤ 30) := ⟨hU, hS, hb, hl⟩
  obtain ⟨n, hn⟩ : ∃ n, X.length = n := ⟨_, rfl⟩
  rw [hn] at H1 ⊢
  have HN1 : Hid (X.length = n) := hn
  clear hU hS hb hl hn
  go_wp2_with fail
  refine (RPutUtc_any sec).mono ?_
  rintro e w2 ⟨X', err', hU, a', c', rfl, hS, hb⟩
  obtain ⟨rfl, rfl⟩ := uspec_uniq H1.out.1 hU
  rw [HN1.out] at hS ⊢
  have H2 : Hid (Sl .u8 w2 (.slice a n c) X ∧ Sl .u8 w2 (.slice a' n c') X ∧ Below w.heap.size w w2) := ⟨below_sl hb H1.out.2.1, hS, below_via H1.out.2.2.1 hb (Nat.le_refl _)⟩
  clear hU hS hb
  go_wp2_with fail
  refine (PutGeneral_any sec micro (HT.out.below H2.out.2.2).pw).mono ?_
  rintro e w3 ⟨Z, gerr, hG, b, d, rfl, hS, hb⟩
  have hl := g_len hG
  have H3 : Hid (GSpec sec micro Z gerr ∧ Sl .u8 w3 (.slice b Z.length d) Z ∧ Below w.heap.size w w3 ∧ Z.length ≤ 30 ∧ Sl .u8 w3 (.slice a n c) X ∧ Sl .u8 w3 (.slice a' n c') X) := ⟨hG, hS, below_via H2.out.2.2 hb (Nat.le_refl _), hl, below_sl hb H2.out.1, below_sl hb H2.out.2.1⟩
  obtain ⟨m, hm⟩ : ∃ m, Z.length = m := ⟨_, rfl⟩
  rw [hm] at H3 ⊢
  have HM1 : Hid (Z.length = m) := hm
  clear hG hS hb hl hm
  go_wp2_with fail
  refine (RPutGeneral_any sec micro).mono ?_
  rintro e w4 ⟨Z', gerr', hG, b', d', rfl, hS, hb⟩
  obtain ⟨rfl, rfl⟩ := gspec_uniq H3.out.1 hG
  rw [HM1.out] at hS ⊢
  have H4 : Hid (Sl .u8 w4 (.slice b m d) Z ∧ Sl .u8 w4 (.slice b' m d') Z ∧ Below w.heap.size w w4 ∧ Sl .u8 w4 (.slice a n c) X ∧ Sl .u8 w4 (.slice a' n c') X) := ⟨below_sl hb H3.out.2.1, hS, below_via H3.out.2.2.1 hb (Nat.le_refl _), below_sl hb H3.out.2.2.2.2.1, below_sl hb H3.out.2.2.2.2.2⟩
  clear hG hS hb
  go_wp2_with fail
  refine (SameBytes_any _ _ X H4.out.2.2.2.1 H4.out.2.2.2.2 (by have := H1.out.2.2.2; have := HN1.out; omega)).mono ?_
  rintro e w5 ⟨rfl, hb⟩
  have H5 : Hid (Below w.heap.size w w5 ∧ Below w4.heap.size w4 w5) := ⟨below_via H4.out.2.2.1 hb (Nat.le_refl _), hb⟩
  clear hb
  go_wp2_with (go_at_call 10; refine (num_any _).mono ?_; rintro e w' ⟨rfl, rfl⟩)
  refine (SameBytes_any _ _ Z (below_sl H5.out.2 H4.out.1) (below_sl H5.out.2 H4.out.2.1) (by have := H3.out.2.2.2.1; have := HM1.out; omega)).mono ?_
  rintro e w6 ⟨rfl, hb⟩
  have H6 : Hid (Below w.heap.size w w6) := below_via H5.out.1 hb (Nat.le_refl _)
  clear hb
  go_wp2_with (go_at_call 10; refine (num_any _).mono ?_; rintro e w' ⟨rfl, rfl⟩)
  refine (live_any (HT.out.below H6.out).tab).mono ?_
  rintro e w7 ⟨rfl, hb⟩
  have H7 : Hid (Below w.heap.size w w7) := below_via H6.out hb (Nat.le_refl _)
  clear hb
  go_wp2
  go_ret
  exact ⟨rfl, H7.out⟩
end Go.Proofs.YtonfllajceppgaaDoor
