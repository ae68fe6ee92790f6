/-
  Digest: New, Write, Sum, Len, Alg of a Hash.
-/
import Derived.Test.YtgipmjpkaemdkaaDoorG15
namespace Go.Proofs.YtgipmjpkaemdkaaDoor
open Go.RowKit
/-- Block g is a Hash of that algorithm that was handed the message. -/
def HashIs (w : World) (g : Nat) (alg : Int) (msg : List Int) : Prop := ∃ (HT : TypeId) (h : Hs), Blk HT w g h.cells ∧ h.ok ∧ Inv alg h msg
theorem HashIs.lt {w : World} {g : Nat} {alg : Int} {msg : List Int} (h : HashIs w g alg msg) : g < w.heap.size := by obtain ⟨_, _, h, _⟩ := h; exact h.lt
theorem HashIs.below {w w' : World} {g B : Nat} {alg : Int} {msg : List Int} (h : HashIs w g alg msg) (hb : Below B w w') (hg : g < B) : HashIs w' g alg msg := by
  obtain ⟨HT, s, h1, h2⟩ := h; exact ⟨HT, s, below_blk hb hg h1, h2⟩
theorem HashIs.upd {w w' : World} {g b : Nat} {alg : Int} {msg : List Int} (h : HashIs w g alg msg) (hu : Upd w w' b) (hg : g ≠ b) : HashIs w' g alg msg := by
  obtain ⟨HT, s, h1, h2⟩ := h; exact ⟨HT, s, hu.blk h1 hg, h2⟩
theorem HashIs.drewN {w : World} {g : Nat} {alg : Int} {msg : List Int} (h : HashIs w g alg msg) (n : Nat) : HashIs (w.drewN n) g alg msg := h
theorem blk_alg {alg : Int} (h : Alg alg) : ¬ (blk alg : Int) = 0 := by rcases h.blk_pos with e | e <;> rw [e] <;> decide
theorem ShaLen_any {w : World} (g : Nat) (alg : Int) (msg : List Int) (h : HashIs w g alg msg) :
    Calls Tryd.prog 31 #[.pointer (some ⟨g, 0, none⟩)] w fun e w' => e = .returned (.int .i64 msg.length) ∧ w' = w := by
  obtain ⟨HT, s, h1, h2, h3⟩ := h
  have hc1 : w.cell? ⟨g, 1, none⟩ = some (.int .i64 msg.length) := by rw [← h3.totalE]; exact h1.cell 1
  clear h1 h2 h3
  go_enter Tryd.func31, Tryd.ntmps31
  go_wp2
  go_ret
  exact ⟨rfl, rfl⟩
theorem ShaAlg_any {w : World} (g : Nat) (alg : Int) (msg : List Int) (h : HashIs w g alg msg) :
    Calls Tryd.prog 38 #[.pointer (some ⟨g, 0, none⟩)] w fun e w' => e = .returned (.int .i64 alg) ∧ w' = w := by
  obtain ⟨HT, s, h1, h2, h3⟩ := h
  have hc1 : w.cell? ⟨g, 0, none⟩ = some (.int .i64 alg) := by rw [← h3.algE]; exact h1.cell 0
  clear h1 h2 h3
  go_enter Tryd.func38, Tryd.ntmps38
  go_wp2
  go_ret
  exact ⟨rfl, rfl⟩
theorem Len_any {w : World} (g : Nat) (alg : Int) (msg : List Int) (h : HashIs w g alg msg) :
    Calls Tryd.prog 26 #[.pointer (some ⟨g, 0, none⟩)] w fun e w' => e = .returned (.int .i64 msg.length) ∧ w' = w := by
  have HL : Hid (∀ w', w' = w → Calls Tryd.prog 31 #[.pointer (some ⟨g, 0, none⟩)] w' fun e w'' => e = .returned (.int .i64 msg.length) ∧ w' = w'') := fun w' hw => by subst hw; exact (ShaLen_any g alg msg h).mono fun _ _ h => ⟨h.1, h.2.symm⟩
  clear h
  go_enter Tryd.func26, Tryd.ntmps26
  go_wp2_with (go_at_call 31; refine (HL.out _ rfl).mono ?_; rintro e w' ⟨rfl, rfl⟩)
  go_ret
  exact ⟨rfl, rfl⟩
theorem Alg_any {w : World} (g : Nat) (alg : Int) (msg : List Int) (h : HashIs w g alg msg) :
    Calls Tryd.prog 27 #[.pointer (some ⟨g, 0, none⟩)] w fun e w' => e = .returned (.int .i64 alg) ∧ w' = w := by
  have HL : Hid (∀ w', w' = w → Calls Tryd.prog 38 #[.pointer (some ⟨g, 0, none⟩)] w' fun e w'' => e = .returned (.int .i64 alg) ∧ w' = w'') := fun w' hw => by subst hw; exact (ShaAlg_any g alg msg h).mono fun _ _ h => ⟨h.1, h.2.symm⟩
  clear h
  go_enter Tryd.func27, Tryd.ntmps27
  go_wp2_with (go_at_call 38; refine (HL.out _ rfl).mono ?_; rintro e w' ⟨rfl, rfl⟩)
  go_ret
  exact ⟨rfl, rfl⟩
theorem Len_nil {w : World} : Calls Tryd.prog 26 #[.pointer none] w fun e w' => e = .returned (.int .i64 0) ∧ w' = w := by
  go_enter Tryd.func26, Tryd.ntmps26
  go_wp2
  go_ret
  exact ⟨rfl, rfl⟩
theorem Alg_nil {w : World} : Calls Tryd.prog 27 #[.pointer none] w fun e w' => e = .returned (.int .i64 0) ∧ w' = w := by
  go_enter Tryd.func27, Tryd.ntmps27
  go_wp2
  go_ret
  exact ⟨rfl, rfl⟩
theorem Write_nil {w : World} (v : Value) : Calls Tryd.prog 22 #[.pointer none, v] w fun e w' => e = .returned (.int .i64 7) ∧ w' = w := by
  go_enter Tryd.func22, Tryd.ntmps22
  go_wp2
  go_ret
  exact ⟨rfl, rfl⟩
theorem SumM_nil {w : World} : Calls Tryd.prog 24 #[.pointer none] w fun e w' => e = .returned (.slice none 0 0) ∧ w' = w := by
  go_enter Tryd.func24, Tryd.ntmps24
  go_wp2
  go_ret
  exact ⟨rfl, rfl⟩
set_option maxHeartbeats 1000000 in
theorem Write_any {w : World} (g : Nat) (alg : Int) (ha : Alg alg) (msg bs : List Int) (h : HashIs w g alg msg) (hg7 : 7 ≤ g) (hT : Tabs w) (v : Value) (hv : SlX w g v bs) (um : U8s msg) (ub : U8s bs) (hm : msg.length ≤ 16777216) (hn : bs.length ≤ 1099511627776) (hfit : msg.length + bs.length ≤ 16777216) :
    Calls Tryd.prog 22 #[.pointer (some ⟨g, 0, none⟩), v] w fun e w' => e = .returned (.int .i64 0) ∧ HashIs w' g alg (msg ++ bs) ∧ Upd w w' g := by
  have HL : Hid (∀ w', w' = w → Calls Tryd.prog 31 #[.pointer (some ⟨g, 0, none⟩)] w' fun e w'' => e = .returned (.int .i64 msg.length) ∧ w' = w'') := fun w' hw => by subst hw; exact (ShaLen_any g alg msg h).mono fun _ _ h => ⟨h.1, h.2.symm⟩
  obtain ⟨HT, s, h1, h2, h3⟩ := h
  have HTk : Hid (∀ w', w' = w → Calls Tryd.prog _ _ w' _) := fun w' hw => by rw [hw]; exact take_any alg ha s h2 msg bs h3 g h1 hg7 hT v hv um ub (by omega) hn
  obtain ⟨a, c, rfl, hcl, hv⟩ := hv
  obtain ⟨n, hne⟩ : ∃ n, bs.length = n := ⟨_, rfl⟩
  obtain ⟨N, hNe⟩ : ∃ n, msg.length = n := ⟨_, rfl⟩
  rw [hne] at hfit hn hcl HTk
  rw [hNe] at hfit hm HL
  rw [hne]
  clear h1 h2 h3 hv hT hne hNe
  go_enter Tryd.func22, Tryd.ntmps22
  go_wp2_with (first
    | (go_at_call 31; refine (HL.out _ rfl).mono ?_; rintro e w' ⟨rfl, rfl⟩)
    | (go_at_call 32; refine (HTk.out _ rfl).mono ?_; rintro e w2 ⟨rfl, hh, hu⟩; have HH : Hid (HashIs w2 g alg (msg ++ bs) ∧ Upd w w2 g) := ⟨⟨HT, hh⟩, hu⟩; clear hh hu))
  go_ret
  exact ⟨rfl, HH.out⟩
set_option maxHeartbeats 1000000 in
theorem Write_long {w : World} (g : Nat) (alg : Int) (_ : Alg alg) (msg : List Int) (h : HashIs w g alg msg) (a : Option Addr) (n c : Nat) (hm : msg.length ≤ 16777216) (hfit : 16777216 < msg.length + n) :
    Calls Tryd.prog 22 #[.pointer (some ⟨g, 0, none⟩), .slice a n c] w fun e w' => e = .returned (.int .i64 3) ∧ w' = w := by
  have HL : Hid (∀ w', w' = w → Calls Tryd.prog 31 #[.pointer (some ⟨g, 0, none⟩)] w' fun e w'' => e = .returned (.int .i64 msg.length) ∧ w' = w'') := fun w' hw => by subst hw; exact (ShaLen_any g alg msg h).mono fun _ _ h => ⟨h.1, h.2.symm⟩
  obtain ⟨N, hNe⟩ : ∃ n, msg.length = n := ⟨_, rfl⟩
  rw [hNe] at hfit hm HL
  clear h hNe
  go_enter Tryd.func22, Tryd.ntmps22
  go_wp2_with (go_at_call 31; refine (HL.out _ rfl).mono ?_; rintro e w' ⟨rfl, rfl⟩)
  go_ret
  exact ⟨rfl, rfl⟩
end Go.Proofs.YtgipmjpkaemdkaaDoor
