/-
  Digest: the law DigestPieces, whole.
-/
import Derived.Test.YtgipmjpkaemdkaaDoorG27
import Derived.Test.YtgipmjpkaemdkaaDoorLaid
namespace Go.Proofs.YtgipmjpkaemdkaaDoor
open Go.RowKit
theorem below_ald {w : World} (o : Obj) : Below w.heap.size w (w.alloc o).drew := (al1 o).trans ⟨rfl, rfl, rfl, Nat.le_refl _, fun _ _ => rfl⟩
theorem siz_no {alg : Int} (h : ¬ Alg alg) : siz alg = 0 := by
  unfold siz
  rw [if_neg (fun e => h (.inl e)), if_neg (fun e => h (.inr (.inl e))), if_neg (fun e => h (.inr (.inr (.inl e)))), if_neg (fun e => h (.inr (.inr (.inr e))))]
theorem IsRow.sl8c {w : World} {a : Option Addr} {len cap : Nat} {zs : List Int} (h : IsRow .u8 w a len cap zs) : ∃ X, X.length = len ∧ Sl .u8 w (.slice a len cap) X ∧ U8s X ∧ len ≤ cap ∧ (cap = 0 ∨ ∃ b off, a = some ⟨b, off, none⟩ ∧ b < w.heap.size ∧ Rd .u8 w b off X) := by
  obtain ⟨X, h1, h2, h3⟩ := h.sl8
  refine ⟨X, h1, h2, h3, ?_⟩
  rcases h with ⟨rfl, rfl, rfl, rfl⟩ | ⟨x, rfl, hl, hm, hz, hc, hw⟩
  · exact ⟨Nat.le_refl _, .inl rfl⟩
  · refine ⟨hl, ?_⟩
    by_cases h0 : cap = 0
    · exact .inl h0
    · right
      obtain ⟨b, off, sp⟩ := x
      have h4 := cell_spot (hc 0 (by omega))
      have hsp : sp = none := by
        have := h4.1
        cases sp with
        | none => rfl
        | some s => simp [Addr.add] at this
      subst hsp
      have hb : b < w.heap.size := by have := h4.2; simpa [Addr.add] using this
      refine ⟨b, off, rfl, hb, ?_⟩
      obtain ⟨a', c', hv, _, hx⟩ := h2
      rcases hx with rfl | ⟨b', off', ha', _, hr⟩
      · intro i hi; simp at hi
      · subst ha'
        simp only [Value.slice.injEq, Option.some.injEq, Addr.mk.injEq, and_true] at hv
        obtain ⟨⟨rfl, rfl⟩, _⟩ := hv
        exact hr

set_option maxRecDepth 20000 in
set_option maxHeartbeats 2000000 in
theorem DigestPieces_noP {w : World} (alg : Int) (ha : ¬ Alg alg) (b off n c k : Nat) (hkn : k ≤ n) (hnc : n ≤ c) (hck : ¬ c = k) (s1 : n ≤ 65536) (hT : Tabs w) :
    Calls Tryd.prog 5 #[.int .i64 alg, .slice (some ⟨b, off, none⟩) n c, .int .i64 k] w fun e w' => e = .returned (.bool true) ∧ Below w.heap.size w w' := by
  have hkI : (k : Int) ≤ (n : Int) := by omega
  have hkc : (k : Int) ≤ (c : Int) := by omega
  have HT : Hid (Tabs w) := hT
  have HSz : Hid (∀ w' : World, Calls Tryd.prog 17 #[.int .i64 alg] w' fun e w'' => e = .returned (.int .i64 0) ∧ w' = w'') := fun w' => (Size_any alg).mono fun _ _ h => ⟨by rw [h.1, siz_no ha]; rfl, h.2.symm⟩
  clear hT
  go_enter Tryd.func5, Tryd.ntmps5
  go_wp2_with fail
  refine (Sum_no (w := w.alloc _) alg ha _).mono ?_
  rintro e w1 ⟨rfl, hb⟩
  have H1 : Hid (Below w.heap.size w w1) := below_via (al1 _) hb (Nat.le_refl _)
  clear hb
  go_upto_region 4 with (fail)
  go_region_held3 (fun _ => True) (trivial) ((go_at_call 12; refine (Sum_no alg ha _).mono ?_; rintro e w2 ⟨rfl, hb⟩))
  have H2 : Hid (Below w.heap.size w w2) := below_via H1.out (below_via (below_ald _) hb (Nat.le_refl _)) (Nat.le_refl _)
  clear hb
  go_wp2_with fail
  refine (New_no alg ha).mono ?_
  rintro e w3 ⟨rfl, hb⟩
  have H3 : Hid (Below w.heap.size w w3) := below_via H2.out hb (Nat.le_refl _)
  clear hb
  go_wp2_with (first
    | (go_at_call 16; refine (num_any _ _).mono ?_; rintro e w' ⟨rfl, rfl⟩)
    | (go_at_call 17; refine (HSz.out _).mono ?_; rintro e w' ⟨rfl, rfl⟩)
    | (go_at_call 10; refine (live_any (HT.out.below H3.out)).mono ?_; rintro e w4 ⟨rfl, hb4⟩))
  go_ret
  exact ⟨rfl, below_via H3.out hb4 (Nat.le_refl _)⟩

set_option maxRecDepth 20000 in
set_option maxHeartbeats 2000000 in
theorem DigestPieces_noQ {w : World} (alg : Int) (ha : ¬ Alg alg) (a : Option Addr) (n : Nat) (s1 : n ≤ 65536) (hT : Tabs w) :
    Calls Tryd.prog 5 #[.int .i64 alg, .slice a n n, .int .i64 n] w fun e w' => e = .returned (.bool true) ∧ Below w.heap.size w w' := by
  have HT : Hid (Tabs w) := hT
  have HSz : Hid (∀ w' : World, Calls Tryd.prog 17 #[.int .i64 alg] w' fun e w'' => e = .returned (.int .i64 0) ∧ w' = w'') := fun w' => (Size_any alg).mono fun _ _ h => ⟨by rw [h.1, siz_no ha]; rfl, h.2.symm⟩
  clear hT
  go_enter Tryd.func5, Tryd.ntmps5
  go_wp2_with fail
  refine (Sum_no (w := w.alloc _) alg ha _).mono ?_
  rintro e w1 ⟨rfl, hb⟩
  have H1 : Hid (Below w.heap.size w w1) := below_via (al1 _) hb (Nat.le_refl _)
  clear hb
  go_upto_region 4 with (fail)
  go_region_held3 (fun _ => True) (trivial) ((go_at_call 12; refine (Sum_no alg ha _).mono ?_; rintro e w2 ⟨rfl, hb⟩))
  have H2 : Hid (Below w.heap.size w w2) := below_via H1.out (below_via (below_ald _) hb (Nat.le_refl _)) (Nat.le_refl _)
  clear hb
  go_wp2_with fail
  refine (New_no alg ha).mono ?_
  rintro e w3 ⟨rfl, hb⟩
  have H3 : Hid (Below w.heap.size w w3) := below_via H2.out hb (Nat.le_refl _)
  clear hb
  go_wp2_with (first
    | (go_at_call 16; refine (num_any _ _).mono ?_; rintro e w' ⟨rfl, rfl⟩)
    | (go_at_call 17; refine (HSz.out _).mono ?_; rintro e w' ⟨rfl, rfl⟩)
    | (go_at_call 10; refine (live_any (HT.out.below H3.out)).mono ?_; rintro e w4 ⟨rfl, hb4⟩))
  go_ret
  exact ⟨rfl, below_via H3.out hb4 (Nat.le_refl _)⟩

set_option maxHeartbeats 1000000 in
theorem DigestPieces_any {w : World} (alg : Int) (a : Option Addr) (n c : Nat) (A : List Int) (cut : Int) (hA : Sl .u8 w (.slice a n c) A) (uA : U8s A) (lA : A.length = n) (hnc : n ≤ c) (hx : c = 0 ∨ ∃ b off, a = some ⟨b, off, none⟩ ∧ b < w.heap.size ∧ Rd .u8 w b off A) (hT : Tabs w) :
    Calls Tryd.prog 5 #[.int .i64 alg, .slice a n c, .int .i64 cut] w fun e w' => e = .returned (.bool true) ∧ Below w.heap.size w w' := by
  by_cases s1 : ¬ n ≤ 65536
  · have h1 : (65536 : Int) < (n : Int) := by omega
    clear lA hx
    have HT : Hid (Tabs w) := hT
    clear hT hA
    go_enter Tryd.func5, Tryd.ntmps5
    go_wp2_with (go_at_call 10; refine (live_any HT.out).mono ?_; rintro e w2 ⟨rfl, hb⟩)
    go_ret
    exact ⟨rfl, hb⟩
  replace s1 := Decidable.not_not.1 s1
  have s1I : (n : Int) ≤ 65536 := by omega
  by_cases s2 : cut < 0
  · clear lA hx
    have HT : Hid (Tabs w) := hT
    clear hT hA
    go_enter Tryd.func5, Tryd.ntmps5
    go_wp2_with (go_at_call 10; refine (live_any HT.out).mono ?_; rintro e w2 ⟨rfl, hb⟩)
    go_ret
    exact ⟨rfl, hb⟩
  by_cases s3 : (n : Int) < cut
  · have h2 : 0 ≤ cut := by omega
    clear lA hx
    have HT : Hid (Tabs w) := hT
    clear hT hA
    go_enter Tryd.func5, Tryd.ntmps5
    go_wp2_with (go_at_call 10; refine (live_any HT.out).mono ?_; rintro e w2 ⟨rfl, hb⟩)
    go_ret
    exact ⟨rfl, hb⟩
  obtain ⟨k, rfl⟩ := Int.eq_ofNat_of_zero_le (show 0 ≤ cut by omega)
  by_cases hck : c = k
  · have hkn : k = n := by omega
    subst hck
    subst hkn
    by_cases ha : Alg alg
    · exact DigestPieces_Q alg ha A a c hA lA uA s1 hT
    · exact DigestPieces_noQ alg ha a c s1 hT
  · rcases hx with rfl | ⟨b, off, rfl, hb, hr⟩
    · exfalso; omega
    · by_cases ha : Alg alg
      · exact DigestPieces_P alg ha A b off n c k hb hr lA (by omega) hnc hck uA s1 hT
      · exact DigestPieces_noP alg ha b off n c k (by omega) hnc hck s1 hT
end Go.Proofs.YtgipmjpkaemdkaaDoor
