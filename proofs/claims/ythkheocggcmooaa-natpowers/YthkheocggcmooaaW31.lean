/-
  The walks of the reference's plain, digit, order: whatever the lists of digits.
-/
import Derived.Test.YthkheocggcmooaaDig
import Derived.Test.YthkheocggcmooaaW17
import Derived.Test.YthkheocggcmooaaAp
namespace Go.Proofs.Ythkheocggcmooaa
open Go.RowKit

set_option maxHeartbeats 400000 in
theorem plain_any (xs : List Int) (a : Option Addr) (c : Nat) (w : World) (h : Sl .u64 w (.slice a xs.length c) xs) (hl : xs.length ≤ 1152921504606846976) :
    Calls Try.prog 66 #[.slice a xs.length c] w fun e w' => e = .returned (.slice a (D.sig xs) c) ∧ w' = w := by
  have hc : xs.length ≤ c := by obtain ⟨_, _, h1, hc, _⟩ := h; cases h1; exact hc
  obtain ⟨a, c, hv, _, h1⟩ := h
  cases hv
  rcases h1 with rfl | ⟨b, off, rfl, hb, hr⟩
  · simp only [List.length_nil]
    go_enter Try.func66, Try.ntmps66
    go_wp2
    go_loop [3] (fun i => i = .int .i64 0) (fun _ => 0)
    case atStart => rfl
    case round =>
      subst hrel
      go_wp2
      go_ret
      exact ⟨by simp [D.sig], rfl⟩
  · go_enter Try.func66, Try.ntmps66
    go_wp2
    go_loop [3] (fun i => ∃ k : Nat, k ≤ xs.length ∧ i = .int .i64 k ∧ ∀ j, k ≤ j → j < xs.length → xs.getD j 0 = 0) (fun i => (intOf i).toNat)
    case atStart => exact ⟨xs.length, Nat.le_refl _, rfl, fun j h1 h2 => by omega⟩
    case round =>
      obtain ⟨k, hk, rfl, hz⟩ := hrel
      by_cases hk0 : k = 0
      · subst hk0
        have HS : Hid (D.sig xs = 0) := D.sig_eq (Nat.zero_le _) hz (.inl rfl)
        clear hz
        go_wp2
        go_ret
        exact ⟨by rw [HS.out]; rfl, rfl⟩
      · obtain ⟨m, rfl⟩ : ∃ m, k = m + 1 := ⟨k - 1, by omega⟩
        obtain ⟨x, hx⟩ : ∃ x, xs.getD m 0 = x := ⟨_, rfl⟩
        have hcell := hr m (by omega)
        rw [hx] at hcell
        have HZ : Hid (∀ j, m + 1 ≤ j → j < xs.length → xs.getD j 0 = 0) := hz
        have HX : Hid (xs.getD m 0 = x) := hx
        clear hz hx hr
        by_cases hx0 : x = 0
        · go_wp2
          go_round
          case rel => exact ⟨m, by omega, by go_num, fun j h1 h2 => by
            by_cases h3 : j = m
            · subst h3; rw [HX.out]; exact hx0
            · exact HZ.out j (by omega) h2⟩
          case measure => simp [intOf]
        · go_wp2
          go_ret
          exact ⟨by rw [D.sig_eq (k := m + 1) hk HZ.out (.inr (by intro h3; exact hx0 (HX.out.symm.trans h3)))]; rfl, rfl⟩
theorem plain_sl {w : World} (v : Value) (xs : List Int) (h : Sl .u64 w v xs) (hu : D.U16s xs) (hl : xs.length ≤ 1152921504606846976) (N : Int) (hN : D.val xs = N) :
    Calls Try.prog 66 #[v] w fun e w' => ∃ r, e = .returned r ∧ Sl .u64 w' r (D.lim N.toNat) ∧ w = w' := by
  subst hN
  have h0 := h
  obtain ⟨a, c, rfl, hc, h1⟩ := h
  refine (plain_any xs a c w h0 hl).mono ?_
  rintro e w' ⟨rfl, rfl⟩
  have hs := D.sig_le xs
  have e1 := D.take_sig_lim hu
  have e2 : (D.lim (D.val xs).toNat).length = D.sig xs := by rw [← e1]; simp; omega
  refine ⟨_, rfl, ⟨a, c, by rw [e2], by omega, ?_⟩, rfl⟩
  rcases h1 with rfl | ⟨b, off, rfl, hb, hr⟩
  · left; rfl
  · right; exact ⟨b, off, rfl, hb, by rw [← e1]; exact hr.take _⟩

/-- As Sl, in memory from block B on. -/
def SlN (k : IntKind) (B : Nat) (w : World) (v : Value) (xs : List Int) : Prop :=
  ∃ a c, v = .slice a xs.length c ∧ xs.length ≤ c ∧ (xs = [] ∨ ∃ b off, a = some ⟨b, off, none⟩ ∧ B ≤ b ∧ b < w.heap.size ∧ Rd k w b off xs)
theorem SlN.sl {k : IntKind} {B : Nat} {w : World} {v : Value} {xs : List Int} (h : SlN k B w v xs) : Sl k w v xs := by
  obtain ⟨a, c, hv, hc, h⟩ := h
  exact ⟨a, c, hv, hc, h.imp id fun ⟨b, off, ha, _, hb, hr⟩ => ⟨b, off, ha, hb, hr⟩⟩
theorem SlN.below {k : IntKind} {B : Nat} {w w' : World} {v : Value} {xs : List Int} (h : SlN k B w v xs) (hB : Below w.heap.size w w') : SlN k B w' v xs := by
  obtain ⟨a, c, hv, hc, h⟩ := h
  exact ⟨a, c, hv, hc, h.imp id fun ⟨b, off, ha, h1, hb, hr⟩ => ⟨b, off, ha, h1, Nat.lt_of_lt_of_le hb hB.size, below_rd hB hb hr⟩⟩
theorem SlN.mono {k : IntKind} {B B' : Nat} {w : World} {v : Value} {xs : List Int} (h : SlN k B w v xs) (hB : B' ≤ B) : SlN k B' w v xs := by
  obtain ⟨a, c, hv, hc, h⟩ := h
  exact ⟨a, c, hv, hc, h.imp id fun ⟨b, off, ha, h1, h2⟩ => ⟨b, off, ha, by omega, h2⟩⟩
theorem SlN.upd {k : IntKind} {B : Nat} {w w' : World} {v : Value} {xs : List Int} {b0 : Nat} (h : SlN k B w v xs) (hU : Upd w w' b0) (hlt : b0 < B) : SlN k B w' v xs := by
  obtain ⟨a, c, hv, hc, h⟩ := h
  exact ⟨a, c, hv, hc, h.imp id fun ⟨b, off, ha, h1, hb, hr⟩ => ⟨b, off, ha, h1, Nat.lt_of_lt_of_le hb hU.size, hU.rd hb hr (by omega)⟩⟩
theorem SlN.nil (k : IntKind) (B : Nat) (w : World) : SlN k B w (.slice none 0 0) [] := ⟨none, 0, rfl, Nat.le_refl _, .inl rfl⟩
theorem Row.sln {k : IntKind} {e : TypeId} {B : Nat} {w : World} {v : Value} {xs : List Int} (h : Row k e B w v xs) : SlN k B w v xs := by
  rcases h with ⟨rfl, rfl⟩ | ⟨b, S, rfl, hB, hA, hl, ht, _⟩
  · exact SlN.nil _ _ _
  · refine ⟨_, _, rfl, hl, .inr ⟨b, 0, rfl, hB, hA.lt, ?_⟩⟩
    have := hA.rd 0 xs.length (by omega)
    rw [List.drop_zero, ht] at this; exact this
theorem plain_new {w : World} {B : Nat} (v : Value) (xs : List Int) (h : SlN .u64 B w v xs) (hu : D.U16s xs) (hl : xs.length ≤ 1152921504606846976) (N : Int) (hN : D.val xs = N) :
    Calls Try.prog 66 #[v] w fun e w' => ∃ r, e = .returned r ∧ SlN .u64 B w' r (D.lim N.toNat) ∧ w = w' := by
  subst hN
  have h0 := h.sl
  obtain ⟨a, c, rfl, hc, h1⟩ := h
  refine (plain_any xs a c w h0 hl).mono ?_
  rintro e w' ⟨rfl, rfl⟩
  have hs := D.sig_le xs
  have e1 := D.take_sig_lim hu
  have e2 : (D.lim (D.val xs).toNat).length = D.sig xs := by rw [← e1]; simp; omega
  refine ⟨_, rfl, ⟨a, c, by rw [e2], by omega, ?_⟩, rfl⟩
  rcases h1 with rfl | ⟨b, off, rfl, hB, hb, hr⟩
  · left; rfl
  · right; exact ⟨b, off, rfl, hB, hb, by rw [← e1]; exact hr.take _⟩

theorem digit_any {w : World} (v : Value) (xs : List Int) (h : Sl .u64 w v xs) (hl : xs.length ≤ 1152921504606846976) (i : Int) (hi : -1152921504606846976 ≤ i ∧ i ≤ 1152921504606846976) (x : Int) (hx : (if 0 ≤ i then xs.getD i.toNat 0 else 0) = x) :
    Calls Try.prog 64 #[v, .int .i64 i] w fun e w' => e = .returned (.int .u64 x) ∧ w = w' := by
  obtain ⟨a, c, rfl, hc, h1⟩ := h
  by_cases hi0 : 0 ≤ i
  · obtain ⟨n, rfl⟩ : ∃ n : Nat, i = n := ⟨i.toNat, by omega⟩
    rw [if_pos hi0] at hx
    simp only [Int.toNat_natCast] at hx
    by_cases hn : n < xs.length
    · rcases h1 with rfl | ⟨b, off, rfl, hb, hr⟩
      · simp at hn
      · have hcell := hr n hn
        rw [hx] at hcell
        clear hx hr
        go_enter Try.func64, Try.ntmps64
        go_wp2
        go_ret
        exact ⟨rfl, rfl⟩
    · have hx0 : x = 0 := by rw [← hx]; simp [List.getD, List.getElem?_eq_none (Nat.le_of_not_lt hn)]
      subst hx0
      clear hx
      go_enter Try.func64, Try.ntmps64
      go_wp2
      go_ret
      exact ⟨rfl, rfl⟩
  · rw [if_neg hi0] at hx
    subst hx
    go_enter Try.func64, Try.ntmps64
    go_wp2
    go_ret
    exact ⟨rfl, rfl⟩
theorem digit_nat {w : World} (v : Value) (xs : List Int) (h : Sl .u64 w v xs) (hl : xs.length ≤ 1152921504606846976) (n : Nat) (hn : n ≤ 1152921504606846976) (x : Int) (hx : xs.getD n 0 = x) :
    Calls Try.prog 64 #[v, .int .i64 n] w fun e w' => e = .returned (.int .u64 x) ∧ w = w' :=
  digit_any v xs h hl n (by omega) x (by rw [if_pos (by omega)]; simpa using hx)

end Go.Proofs.Ythkheocggcmooaa
