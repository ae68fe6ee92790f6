/-
  Rsa: which keys may be; in how many bytes a modulus stands.
-/
import Derived.Laws.ResultCell
import Derived.Lib.SlBytesConst
import Derived.Test.YtjmiaakfdclfjaaGreatDoorK23
namespace Go.Proofs.YtjmiaakfdclfjaaGreatDoor
open Go.RowKit
set_option maxRecDepth 20000
theorem and_1q (x : Int) (h0 : 0 ≤ x) (h1 : x < 4294967296) : bits .and .u32 x 1 = x % 2 := by go_bits2
def bts (xs : List Int) : Nat := bitLen (val xs).toNat
def modOk (xs : List Int) : Bool := decide (xs.length ≤ 256 ∧ 512 ≤ bts xs ∧ xs.getD 0 0 % 2 = 1)
def expOk (xs : List Int) : Bool := decide (xs.length ≤ 256 ∧ 2 ≤ bts xs ∧ bts xs ≤ 64 ∧ xs.getD 0 0 % 2 = 1)
theorem bts_nil : bts [] = 0 := by decide
theorem sl_cell0 {w : World} {a : Option Addr} {len cap : Nat} {xs : List Int} (h : Sl .u32 w (.slice a len cap) xs) (hl : xs.length = len) (h0 : 0 < len) : ∃ b off, a = some ⟨b, off, none⟩ ∧ b < w.heap.size ∧ w.cell? ⟨b, off, none⟩ = some (.int .u32 (xs.getD 0 0)) := by
  obtain ⟨a', c', he, hc, h⟩ := h
  cases he
  rcases h with h | ⟨b, off, rfl, hb, hr⟩
  · rw [h] at h0; simp at h0
  · exact ⟨b, off, rfl, hb, by have := hr 0 (by omega); simpa using this⟩
set_option maxHeartbeats 1000000 in
theorem isModulus_any {w : World} (a : Option Addr) (len cap : Nat) (xs : List Int) (hx : Sl .u32 w (.slice a len cap) xs) (ux : U32s xs) (hl : xs.length = len) (hb : len ≤ 1152921504606846976) :
    Calls Tryz.prog 36 #[.slice a len cap] w fun e w' => e = .returned (.bool (modOk xs)) ∧ Below w.heap.size w w' := by
  by_cases h1 : ¬ len ≤ 256
  · have d1 : decide ((len : Int) ≤ 256) = false := by simp; omega
    have HE : Hid (modOk xs = false) := by unfold modOk; simp; intro h; omega
    clear hx ux hl
    go_enter Tryz.func36, Tryz.ntmps36
    go_wp2
    go_ret
    exact ⟨by rw [HE.out]; rfl, Below.refl _ _⟩
  have h1 := Decidable.not_not.1 h1
  have d1 : decide ((len : Int) ≤ 256) = true := by simp; omega
  obtain ⟨B, hB⟩ : ∃ B, bts xs = B := ⟨_, rfl⟩
  have HBt : Hid (∀ w', w' = w → Calls Tryz.prog 25 #[.slice a len cap] w' fun e w'' => e = .returned (.int .i64 B) ∧ Below w.heap.size w w'') := fun w' hw => by
    rw [hw]
    exact (NBits_any xs _ w hx ux (by omega)).mono fun _ _ h => ⟨by rw [h.1, ← hB]; rfl, h.2⟩
  by_cases h2 : ¬ 512 ≤ B
  · have d2 : decide ((512 : Int) ≤ (B : Int)) = false := by simp; omega
    have HE : Hid (modOk xs = false) := by unfold modOk; rw [hB]; simp; intro h h'; omega
    clear hx ux hl hB
    go_enter Tryz.func36, Tryz.ntmps36
    go_wp2_with (go_at_call 25; refine (HBt.out _ rfl).mono ?_; rintro e w1 ⟨rfl, hb1⟩)
    go_ret
    exact ⟨by rw [HE.out]; rfl, hb1⟩
  have h2 := Decidable.not_not.1 h2
  have d2 : decide ((512 : Int) ≤ (B : Int)) = true := by simp; omega
  have h0 : 0 < len := by
    refine Nat.pos_of_ne_zero fun h => ?_
    have : xs = [] := List.eq_nil_of_length_eq_zero (by omega)
    rw [this, bts_nil] at hB; omega
  obtain ⟨b, off, rfl, hbl, hc⟩ := sl_cell0 hx hl h0
  obtain ⟨x, hxe⟩ : ∃ x, xs.getD 0 0 = x := ⟨_, rfl⟩
  rw [hxe] at hc
  have hxu : 0 ≤ x ∧ x < 4294967296 := by
    have : xs.getD 0 0 ∈ xs := by rw [List.getD_eq_getElem?_getD, List.getElem?_eq_getElem (by omega)]; simp
    have := ux _ this; rw [hxe] at this; exact this
  have ha := and_1q x hxu.1 hxu.2
  have HE : Hid (modOk xs = decide (x % 2 = 1)) := by show modOk xs = decide (x % 2 = 1); unfold modOk; rw [hB, hxe]; simp [show xs.length ≤ 256 by omega, h2]
  have HC : Hid (∀ W : World, Below w.heap.size w W → W.cell? ⟨b, off, none⟩ = some (.int .u32 x)) := fun W hW => by rw [hW.cell (p := ⟨b, off, none⟩) hbl]; exact hc
  have h0I : (0 : Int) < (len : Int) := by omega
  clear hx ux hl hB hxe hc
  by_cases h3 : x % 2 = 1
  · have d3 : (x % 2 == 1) = true := by simpa using h3
    go_enter Tryz.func36, Tryz.ntmps36
    go_wp2_with (go_at_call 25; refine (HBt.out _ rfl).mono ?_; rintro e w1 ⟨rfl, hb1⟩; have hc1 := HC.out w1 hb1; have H1 : Hid (Below w.heap.size w w1) := hb1; clear hb1)
    go_ret
    exact ⟨by rw [HE.out]; simp [h3], H1.out⟩
  · have d3 : (x % 2 == 1) = false := by simpa using h3
    go_enter Tryz.func36, Tryz.ntmps36
    go_wp2_with (go_at_call 25; refine (HBt.out _ rfl).mono ?_; rintro e w1 ⟨rfl, hb1⟩; have hc1 := HC.out w1 hb1; have H1 : Hid (Below w.heap.size w w1) := hb1; clear hb1)
    go_ret
    exact ⟨by rw [HE.out]; simp [h3], H1.out⟩
set_option maxHeartbeats 1000000 in
theorem isExponent_any {w : World} (a : Option Addr) (len cap : Nat) (xs : List Int) (hx : Sl .u32 w (.slice a len cap) xs) (ux : U32s xs) (hl : xs.length = len) (hb : len ≤ 36028797018963968) :
    Calls Tryz.prog 37 #[.slice a len cap] w fun e w' => e = .returned (.bool (expOk xs)) ∧ Below w.heap.size w w' := by
  obtain ⟨B, hB⟩ : ∃ B, bts xs = B := ⟨_, rfl⟩
  have HBt : Hid (∀ w', w' = w → Calls Tryz.prog 25 #[.slice a len cap] w' fun e w'' => e = .returned (.int .i64 B) ∧ Below w.heap.size w w'') := fun w' hw => by
    rw [hw]
    exact (NBits_any xs _ w hx ux (by omega)).mono fun _ _ h => ⟨by rw [h.1, ← hB]; rfl, h.2⟩
  by_cases h1 : ¬ len ≤ 256
  · have d1 : decide ((len : Int) ≤ 256) = false := by simp; omega
    have HE : Hid (expOk xs = false) := by unfold expOk; simp; intro h; omega
    clear hx ux hl hB
    go_enter Tryz.func37, Tryz.ntmps37
    go_wp2_with (go_at_call 25; refine (HBt.out _ rfl).mono ?_; rintro e w1 ⟨rfl, hb1⟩)
    go_ret
    exact ⟨by rw [HE.out]; rfl, hb1⟩
  have h1 := Decidable.not_not.1 h1
  have d1 : decide ((len : Int) ≤ 256) = true := by simp; omega
  by_cases h2 : ¬ 2 ≤ B
  · have d2 : decide ((2 : Int) ≤ (B : Int)) = false := by simp; omega
    have HE : Hid (expOk xs = false) := by unfold expOk; rw [hB]; simp; intro h h'; omega
    clear hx ux hl hB
    go_enter Tryz.func37, Tryz.ntmps37
    go_wp2_with (go_at_call 25; refine (HBt.out _ rfl).mono ?_; rintro e w1 ⟨rfl, hb1⟩)
    go_ret
    exact ⟨by rw [HE.out]; rfl, hb1⟩
  have h2 := Decidable.not_not.1 h2
  have d2 : decide ((2 : Int) ≤ (B : Int)) = true := by simp; omega
  by_cases h4 : ¬ B ≤ 64
  · have d4 : decide ((B : Int) ≤ 64) = false := by simp; omega
    have HE : Hid (expOk xs = false) := by unfold expOk; rw [hB]; simp; intro h h' h''; omega
    clear hx ux hl hB
    go_enter Tryz.func37, Tryz.ntmps37
    go_wp2_with (go_at_call 25; refine (HBt.out _ rfl).mono ?_; rintro e w1 ⟨rfl, hb1⟩)
    go_ret
    exact ⟨by rw [HE.out]; rfl, hb1⟩
  have h4 := Decidable.not_not.1 h4
  have d4 : decide ((B : Int) ≤ 64) = true := by simp; omega
  have h0 : 0 < len := by
    refine Nat.pos_of_ne_zero fun h => ?_
    have : xs = [] := List.eq_nil_of_length_eq_zero (by omega)
    rw [this, bts_nil] at hB; omega
  obtain ⟨b, off, rfl, hbl, hc⟩ := sl_cell0 hx hl h0
  obtain ⟨x, hxe⟩ : ∃ x, xs.getD 0 0 = x := ⟨_, rfl⟩
  rw [hxe] at hc
  have hxu : 0 ≤ x ∧ x < 4294967296 := by
    have : xs.getD 0 0 ∈ xs := by rw [List.getD_eq_getElem?_getD, List.getElem?_eq_getElem (by omega)]; simp
    have := ux _ this; rw [hxe] at this; exact this
  have ha := and_1q x hxu.1 hxu.2
  have HE : Hid (expOk xs = decide (x % 2 = 1)) := by show expOk xs = decide (x % 2 = 1); unfold expOk; rw [hB, hxe]; simp [show xs.length ≤ 256 by omega, h2, h4]
  have HC : Hid (∀ W : World, Below w.heap.size w W → W.cell? ⟨b, off, none⟩ = some (.int .u32 x)) := fun W hW => by rw [hW.cell (p := ⟨b, off, none⟩) hbl]; exact hc
  have h0I : (0 : Int) < (len : Int) := by omega
  clear hx ux hl hB hxe hc
  by_cases h3 : x % 2 = 1
  · have d3 : (x % 2 == 1) = true := by simpa using h3
    go_enter Tryz.func37, Tryz.ntmps37
    go_wp2_with (go_at_call 25; refine (HBt.out _ rfl).mono ?_; rintro e w1 ⟨rfl, hb1⟩; have hc1 := HC.out w1 hb1; have H1 : Hid (Below w.heap.size w w1) := hb1; clear hb1)
    go_ret
    exact ⟨by rw [HE.out]; simp [h3], H1.out⟩
  · have d3 : (x % 2 == 1) = false := by simpa using h3
    go_enter Tryz.func37, Tryz.ntmps37
    go_wp2_with (go_at_call 25; refine (HBt.out _ rfl).mono ?_; rintro e w1 ⟨rfl, hb1⟩; have hc1 := HC.out w1 hb1; have H1 : Hid (Below w.heap.size w w1) := hb1; clear hb1)
    go_ret
    exact ⟨by rw [HE.out]; simp [h3], H1.out⟩
def keyOk (ns es : List Int) : Bool := modOk ns && expOk es
set_option maxHeartbeats 1000000 in
theorem Check_any {w : World} (a a' : Option Addr) (n c n' c' : Nat) (ns es : List Int) (hn : Sl .u32 w (.slice a n c) ns) (un : U32s ns) (ln : ns.length = n) (he : Sl .u32 w (.slice a' n' c') es) (ue : U32s es) (le : es.length = n') (hb : n ≤ 36028797018963968) (hb' : n' ≤ 36028797018963968) :
    Calls Tryz.prog 12 #[.agg #[.slice a n c, .slice a' n' c']] w fun e w' => e = .returned (.int .i64 (if keyOk ns es then 0 else 80)) ∧ Below w.heap.size w w' := by
  have HM : Hid (∀ W, Below w.heap.size w W → Calls Tryz.prog 36 #[.slice a n c] W fun e w'' => e = .returned (.bool (modOk ns)) ∧ Below W.heap.size W w'') := fun W hw => isModulus_any a n c ns (below_sl hw hn) un ln (by omega)
  have HE : Hid (∀ W, Below w.heap.size w W → Calls Tryz.prog 37 #[.slice a' n' c'] W fun e w'' => e = .returned (.bool (expOk es)) ∧ Below W.heap.size W w'') := fun W hw => isExponent_any a' n' c' es (below_sl hw he) ue le (by omega)
  clear hn un ln he ue le
  obtain ⟨R, hR⟩ : ∃ R : Int, (if keyOk ns es then 0 else 80) = R := ⟨_, rfl⟩
  rw [hR]
  have HR : Hid ((if keyOk ns es then (0 : Int) else 80) = R) := hR
  clear hR
  go_enter Tryz.func12, Tryz.ntmps12
  go_upto_region 1 with (refine Sh.wpList_boxR rfl 26 (.tmp 0) rfl #[.slice a n c, .slice a' n' c'] rfl ?_)
  refine Sh.wp_gen (fun W => Blk 26 W w.heap.size [.slice a n c, .slice a' n' c'] ∧ Below w.heap.size w W) ⟨Blk.new _ w _, al1 _⟩ ?_
  rintro W2 ⟨hB, hBw⟩
  have hc0 : W2.cell? ⟨w.heap.size, 0, none⟩ = some (.slice a n c) := hB.cell 0
  have H2 : Hid (Below w.heap.size w W2 ∧ ∀ W3, Below W2.heap.size W2 W3 → W3.cell? ⟨w.heap.size, 1, none⟩ = some (.slice a' n' c') ∧ Below w.heap.size w W3) := ⟨hBw, fun W3 h3 => ⟨(below_blk h3 hB.lt hB).cell 1, below_via hBw h3 (Nat.le_refl _)⟩⟩
  clear hB hBw
  cases hm : modOk ns with
  | false =>
    rw [hm] at HM
    go_wp2_with (go_at_call 36; refine (HM.out _ H2.out.1).mono ?_; rintro e w3 ⟨rfl, hb3⟩; have H3 : Hid (Below w.heap.size w w3) := (H2.out.2 w3 hb3).2; clear hb3 hc0)
    go_ret
    exact ⟨by rw [← HR.out]; simp [keyOk, hm], H3.out⟩
  | true =>
    rw [hm] at HM
    cases hx : expOk es with
    | false =>
      rw [hx] at HE
      go_wp2_with (first
        | (go_at_call 36; refine (HM.out _ H2.out.1).mono ?_; rintro e w3 ⟨rfl, hb3⟩; have hc1 := (H2.out.2 w3 hb3).1; have H3 : Hid (Below w.heap.size w w3) := (H2.out.2 w3 hb3).2; clear hb3 hc0)
        | (go_at_call 37; refine (HE.out _ H3.out).mono ?_; rintro e w4 ⟨rfl, hb4⟩; have H4 : Hid (Below w.heap.size w w4) := below_via H3.out hb4 (Nat.le_refl _); clear hb4))
      go_ret
      exact ⟨by rw [← HR.out]; simp [keyOk, hm, hx], H4.out⟩
    | true =>
      rw [hx] at HE
      go_wp2_with (first
        | (go_at_call 36; refine (HM.out _ H2.out.1).mono ?_; rintro e w3 ⟨rfl, hb3⟩; have hc1 := (H2.out.2 w3 hb3).1; have H3 : Hid (Below w.heap.size w w3) := (H2.out.2 w3 hb3).2; clear hb3 hc0)
        | (go_at_call 37; refine (HE.out _ H3.out).mono ?_; rintro e w4 ⟨rfl, hb4⟩; have H4 : Hid (Below w.heap.size w w4) := below_via H3.out hb4 (Nat.le_refl _); clear hb4))
      go_ret
      exact ⟨by rw [← HR.out]; simp [keyOk, hm, hx], H4.out⟩
theorem inBytes_any {w : World} (n : Nat) (hn : n ≤ 1152921504606846976) : Calls Tryz.prog 27 #[.int .i64 n] w fun e w' => e = .returned (.int .i64 ((n + 7) / 8 : Nat)) ∧ w' = w := by
  go_enter Tryz.func27, Tryz.ntmps27
  go_wp2
  go_ret
  exact ⟨congrArg (fun z => Ending.returned (Value.int .i64 z)) (by omega), rfl⟩
def keySz (ns es : List Int) : Nat := if keyOk ns es then (bts ns + 7) / 8 else 0
set_option maxHeartbeats 1000000 in
theorem Size_key {w : World} (a a' : Option Addr) (n c n' c' : Nat) (ns es : List Int) (hn : Sl .u32 w (.slice a n c) ns) (un : U32s ns) (ln : ns.length = n) (he : Sl .u32 w (.slice a' n' c') es) (ue : U32s es) (le : es.length = n') (hb : n ≤ 36028797018963968) (hb' : n' ≤ 36028797018963968) (hbts : bts ns ≤ 1152921504606846976) :
    Calls Tryz.prog 13 #[.agg #[.slice a n c, .slice a' n' c']] w fun e w' => e = .returned (.int .i64 (keySz ns es)) ∧ Below w.heap.size w w' := by
  have HC : Hid (∀ W, Below w.heap.size w W → Calls Tryz.prog 12 #[.agg #[.slice a n c, .slice a' n' c']] W fun e w'' => e = .returned (.int .i64 (if keyOk ns es then 0 else 80)) ∧ Below W.heap.size W w'') := fun W hw => Check_any a a' n c n' c' ns es (below_sl hw hn) un ln (below_sl hw he) ue le hb hb'
  obtain ⟨B, hB⟩ : ∃ B, bts ns = B := ⟨_, rfl⟩
  have HBt : Hid (∀ W, Below w.heap.size w W → Calls Tryz.prog 25 #[.slice a n c] W fun e w'' => e = .returned (.int .i64 B) ∧ Below W.heap.size W w'') := fun W hw =>
    (NBits_any ns _ W (below_sl hw hn) un (by omega)).mono fun _ _ h => ⟨by rw [h.1, ← hB]; rfl, h.2⟩
  obtain ⟨R, hR⟩ : ∃ R, keySz ns es = R := ⟨_, rfl⟩
  have HR : Hid ((if keyOk ns es then (B + 7) / 8 else 0) = R) := by rw [← hR, ← hB]; rfl
  rw [hR]
  rw [hB] at hbts
  clear hn un ln he ue le hR hB
  go_enter Tryz.func13, Tryz.ntmps13
  go_upto_region 1 with (refine Sh.wpList_boxR rfl 26 (.tmp 0) rfl #[.slice a n c, .slice a' n' c'] rfl ?_)
  refine Sh.wp_gen (fun W => Blk 26 W w.heap.size [.slice a n c, .slice a' n' c'] ∧ Below w.heap.size w W) ⟨Blk.new _ w _, al1 _⟩ ?_
  rintro W2 ⟨hB, hBw⟩
  have hr : W2.rangeAt w.heap.size 0 [.slice a n c, .slice a' n' c'] := hB.whole
  have H2 : Hid (Below w.heap.size w W2 ∧ ∀ W3, Below W2.heap.size W2 W3 → W3.cell? ⟨w.heap.size, 0, none⟩ = some (.slice a n c) ∧ Below w.heap.size w W3) := ⟨hBw, fun W3 h3 => ⟨(below_blk h3 hB.lt hB).cell 0, below_via hBw h3 (Nat.le_refl _)⟩⟩
  have HRg : Hid (W2.rangeAt w.heap.size 0 [.slice a n c, .slice a' n' c']) := hr
  clear hB hBw hr
  cases hk : keyOk ns es with
  | false =>
    rw [hk] at HC
    go_wp2_with (first
      | (refine wpList_load_mid rfl 26 (.tmp 1) rfl w.heap.size 0 rfl [.slice a n c, .slice a' n' c'] _ HRg.out Tryz.underlying26 rfl (by kernel_rfl) ?_)
      | (go_at_call 12; refine (HC.out _ H2.out.1).mono ?_; rintro e w3 ⟨rfl, hb3⟩; have H3 : Hid (Below w.heap.size w w3) := (H2.out.2 w3 hb3).2; clear hb3))
    go_ret
    exact ⟨by rw [← HR.out]; simp [hk], H3.out⟩
  | true =>
    rw [hk] at HC
    go_wp2_with (first
      | (refine wpList_load_mid rfl 26 (.tmp 1) rfl w.heap.size 0 rfl [.slice a n c, .slice a' n' c'] _ HRg.out Tryz.underlying26 rfl (by kernel_rfl) ?_)
      | (go_at_call 12; refine (HC.out _ H2.out.1).mono ?_; rintro e w3 ⟨rfl, hb3⟩; have hc3 := (H2.out.2 w3 hb3).1; have H3 : Hid (Below w.heap.size w w3) := (H2.out.2 w3 hb3).2; clear hb3)
      | (go_at_call 25; refine (HBt.out _ H3.out).mono ?_; rintro e w4 ⟨rfl, hb4⟩; have H4 : Hid (Below w.heap.size w w4) := below_via H3.out hb4 (Nat.le_refl _); clear hb4)
      | (go_at_call 27; refine (inBytes_any B hbts).mono ?_; rintro e w5 ⟨rfl, hw5⟩; subst hw5))
    go_ret
    exact ⟨by rw [← HR.out]; simp [hk], H4.out⟩
end Go.Proofs.YtjmiaakfdclfjaaGreatDoor
/-
  Rsa: Mask: bytes made of a seed, walked.
-/
namespace Go.Proofs.YtjmiaakfdclfjaaGreatDoor.Sh
open Go.RowKit
set_option maxRecDepth 20000
attribute [local go_sem] Oper.semAt_some
/-- Between two rounds: the bytes so far, and what is left of them. -/
def MI (alg : Int) (seed : List Int) (n : Nat) (w : World) (L : Nat) (i : Nat) (W : World) : Prop :=
  Arr .u8 5 W w.heap.size ((mdg alg seed i).take n ++ List.replicate (n - i * siz alg) 0) ∧
  Blk 22 W L [.slice (some ⟨w.heap.size, i * siz alg, none⟩) (n - i * siz alg) (n - i * siz alg)] ∧
  (i = 0 ∨ i * siz alg < n) ∧ Below w.heap.size w W
/-- Behind the last one. -/
def MX (alg : Int) (seed : List Int) (n : Nat) (w W : World) : Prop :=
  Arr .u8 5 W w.heap.size (msk alg seed n) ∧ Below w.heap.size w W
theorem cell_put {A : World} {k : Nat} {o : Obj} (o' : Obj) (hk : A.heap[k]? = some o) (ho : o.isCells = false) {p : Addr} {v : Value} (h : A.cell? p = some v) : (A.putObj k o').cell? p = some v :=
  cell_kept h (grownBy_putObj' A k o') (fun r e => by cases e; exact ⟨o, hk, ho⟩)
theorem sl_put {A : World} {k : Nat} {o : Obj} (o' : Obj) (hk : A.heap[k]? = some o) (ho : o.isCells = false) {v : Value} {xs : List Int} (h : Sl .u8 A v xs) : Sl .u8 (A.putObj k o') v xs := by
  obtain ⟨a, c, rfl, hc, h⟩ := h
  refine ⟨a, c, rfl, hc, ?_⟩
  rcases h with h | ⟨b, off, rfl, hb, hr⟩
  · exact .inl h
  · exact .inr ⟨b, off, rfl, by simpa [World.putObj] using hb, fun i hi => cell_put o' hk ho (hr i hi)⟩
theorem blk_put {A : World} {k : Nat} (o' : Obj) {T : TypeId} {b : Nat} {cs : List Value} (hb : b ≠ k) (h : Blk T A b cs) : Blk T (A.putObj k o') b cs := by
  unfold Blk; rw [World.putObj_heap_other hb]; exact h
theorem Tabs.kept {A B : World} (h : Tabs A) (hs : A.heap.size ≤ B.heap.size) (hb : ∀ b, b < 8 → B.heap[b]? = A.heap[b]?) : Tabs B := by
  have hc : ∀ b o, b < 8 → B.cell? ⟨b, o, none⟩ = A.cell? ⟨b, o, none⟩ := fun b o hlt => by
    have := hb b hlt
    unfold World.cell?
    simp only [this]
  have hz := h.size
  exact ⟨by omega, fun i hi => (hc _ _ (by decide)).trans (h.f1 i hi), fun i hi => (hc _ _ (by decide)).trans (h.f256 i hi), fun i hi => (hc _ _ (by decide)).trans (h.f384 i hi), fun i hi => (hc _ _ (by decide)).trans (h.f512 i hi), fun i hi => (hc _ _ (by decide)).trans (h.a1 i hi), fun i hi => (hc _ _ (by decide)).trans (h.a256 i hi), fun i hi => (hc _ _ (by decide)).trans (h.a512 i hi)⟩
theorem below_putW {w A : World} {k : Nat} {o : Obj} (o' : Obj) (hk : A.heap[k]? = some o) (hc : o.isCells = false) (hw : o.isWalk = false) (hl : w.heap.size ≤ k) (h : Below w.heap.size w A) : Below w.heap.size w (A.putObj k o') :=
  h.trans (belowK_b (w := w) (Nat.le_refl _) A k o o' hl hk hc hw)
set_option maxHeartbeats 4000000 in
theorem Mask_any {w : World} (alg : Int) (ha : Alg alg) (hT : Tabs w) (v : Value) (seed : List Int) (hv : Sl .u8 w v seed) (us : U8s seed) (hl : seed.length ≤ 100000) (n : Nat) (hn : n ≤ 2048) :
    Calls Tryz.prog 10 #[.int .i64 alg, v, .int .i64 n] w fun e w' => e = .returned (.tuple #[.slice (some ⟨w.heap.size, 0, none⟩) n n, .int .i64 0]) ∧ MX alg seed n w w' := by
  obtain ⟨va, vc, rfl, hvc, hvr⟩ := hv
  have hv : Sl .u8 w (.slice va seed.length vc) seed := ⟨va, vc, rfl, hvc, hvr⟩
  have hsz : 0 < siz alg ∧ siz alg ≤ 64 := by rcases ha with rfl | rfl | rfl | rfl <;> decide
  have HSz : Hid (∀ w' : World, Calls Tryz.prog 23 #[.int .i64 alg] w' fun e w'' => e = .returned (.int .i64 (siz alg)) ∧ w' = w'') := fun w' => (Size_any alg).mono fun _ _ h => ⟨h.1, h.2.symm⟩
  have hs0 : ((siz alg : Int) == 0) = false := by simp; omega
  have hn1 : decide ((n : Int) < 0) = false := by simp
  have hn2 : decide ((2048 : Int) < (n : Int)) = false := by simp; omega
  have HX : Hid (Sl .u8 w (.slice va seed.length vc) seed ∧ U8s seed ∧ Tabs w) := ⟨hv, us, hT⟩
  clear hv hvr hT us
  refine (callsIn_wide (n := 10)).1 (callsIn_of_wp_marks Tryz.func10 rfl trivial (wpIn_wide.2 ?_) rfl)
  simp only [Tryz.ntmps10, List.size_toArray, List.length_cons, List.length_nil, Nat.reduceAdd, Nat.reduceSub, Array.replicate_succ, Array.replicate_zero, List.push_toArray, List.append_toArray, List.nil_append, List.cons_append]
  go_wp2_with (first
    | (go_at_call 23; refine (HSz.out _).mono ?_; rintro e w' ⟨rfl, rfl⟩)
    | (refine wpList_mk w rfl (.tmp 22) (.tmp 22) 22 rfl .u8 5 1 Tryz.und8 Tryz.info8 _ n rfl rfl rfl (by omega) (by omega) ?_; intro w1 hA1 hB1; have HA1 : Hid (Arr .u8 5 w1 w.heap.size (List.replicate n 0) ∧ Below w.heap.size w w1) := ⟨hA1, hB1⟩; clear hA1 hB1)
    | (go_at_call 33; refine (blocks_any alg _ va seed.length vc rfl).mono ?_; rintro e w2 ⟨rfl, hw2⟩))
  obtain ⟨L, hL⟩ : ∃ L, w1.heap.size = L := ⟨_, rfl⟩
  have hLw : w.heap.size < L := by rw [← hL]; exact HA1.out.1.lt
  refine wp_gen (fun W => MI alg seed n w L 0 W ∧ W.cell? ⟨L + 1, 0, none⟩ = some (.int .i64 alg) ∧ W.cell? ⟨L + 2, 0, none⟩ = some (.slice va seed.length vc) ∧ W.heap.size = L + 3 ∧ Tabs W) ?_ ?_
  · have b0 : Below w1.heap.size w1 (w1.alloc (.cells #[.slice (some ⟨w.heap.size, 0, none⟩) n n] 22)) := (Below.refl _ _).alloc (Nat.le_refl _) _
    have b1 : Below w1.heap.size w1 ((w1.alloc (.cells #[.slice (some ⟨w.heap.size, 0, none⟩) n n] 22)).alloc (.cells #[.int .i64 alg] 3)) := b0.alloc b0.size _
    have b2 : Below w1.heap.size w1 (((w1.alloc (.cells #[.slice (some ⟨w.heap.size, 0, none⟩) n n] 22)).alloc (.cells #[.int .i64 alg] 3)).alloc (.cells #[.slice va seed.length vc] 22)) := b1.alloc b1.size _
    have s0 : (w1.alloc (.cells #[.slice (some ⟨w.heap.size, 0, none⟩) n n] 22)).heap.size = L + 1 := by simp [hL]
    have s1 : ((w1.alloc (.cells #[.slice (some ⟨w.heap.size, 0, none⟩) n n] 22)).alloc (.cells #[.int .i64 alg] 3)).heap.size = L + 2 := by simp [hL]
    have k1 := ((Blk.new 22 w1 [.slice (some ⟨w.heap.size, 0, none⟩) n n]).alloc (.cells #[.int .i64 alg] 3)).alloc (.cells #[.slice va seed.length vc] 22)
    have k2 := (Blk.new 3 (w1.alloc (.cells #[.slice (some ⟨w.heap.size, 0, none⟩) n n] 22)) [.int .i64 alg]).alloc (.cells #[.slice va seed.length vc] 22)
    have k3 := Blk.new 22 ((w1.alloc (.cells #[.slice (some ⟨w.heap.size, 0, none⟩) n n] 22)).alloc (.cells #[.int .i64 alg] 3)) [.slice va seed.length vc]
    rw [hL] at k1
    rw [s0] at k2
    rw [s1] at k3
    have bw := HA1.out.2.trans (b2.mono HA1.out.2.size)
    refine ⟨⟨?_, ?_, .inl rfl, bw⟩, k2.cell 0, k3.cell 0, by simp [hL], HX.out.2.2.below bw⟩
    · have := below_arr b2 HA1.out.1.lt HA1.out.1
      simpa [mdg] using this
    · simpa using k1
  rintro W2 ⟨hM, hca, hcs, hsW, hT2⟩
  clear hw2
  refine (wpIn_wide (n := 10)).1 ?_
  refine range_nat (n := 5) (N := 200) (gf := 58) (lb := #[.pointer (some ⟨L + 1, 0, none⟩), .pointer (some ⟨L + 2, 0, none⟩)]) (by simp [Act.eval, hL]) (enters_of Tryz.func58 (by kernel_rfl) rfl) rfl
    (fun i A => MI alg seed n w L i A ∧ Tabs A) (fun c A => c = .exit 0 ∧ MX alg seed n w A) (fun i v A => Sl .u8 A v (dig alg (seed ++ be 4 i)))
    ?_ ?_ ?_ ?_ ?_ ⟨hM, hT2⟩ (fun v => { tmps := #[.int .i64 alg, .slice va seed.length vc, .int .i64 n, undef, undef, undef, .slice none 0 0, .int .i64 0, .slice (some ⟨w.heap.size, 0, none⟩) n n, .pointer (some ⟨L, 0, none⟩), v, .int .i64 alg, .int .i64 (siz alg), .bool false, .bool false, .int .i64 n, .bool false, .bool false, .bool false, .int .i64 n, .bool false, .bool false, .int .i64 n, .slice (some ⟨w.heap.size, 0, none⟩) n n, .slice (some ⟨w.heap.size, 0, none⟩) n n, .int .i64 alg, .slice va seed.length vc, .func (.func 58) #[] #[.pointer (some ⟨L + 1, 0, none⟩), .pointer (some ⟨L + 2, 0, none⟩)], v, undef, undef, undef, undef, undef, undef, undef, undef, undef], defers := [] }) ?_ ?_ ?_
  · rintro i A B ⟨⟨h1, h2, h3, h4⟩, h5⟩ hb
    exact ⟨⟨below_arr hb h1.lt h1, below_blk hb h2.lt h2, h3, h4.trans (hb.mono h4.size)⟩, h5.below hb⟩
  · rintro i A k o o' hk ho hc hwk ⟨⟨h1, h2, h3, h4⟩, h5⟩
    have hs := h5.size
    exact ⟨⟨blk_put o' (by omega) h1, blk_put o' (by omega) h2, h3, below_putW o' ho hc hwk (by omega) h4⟩, h5.kept (by simp [World.putObj]) fun b hb => World.putObj_heap_other (by have := hT2.size; omega)⟩
  · rintro c A k o o' hk ho hc hwk ⟨rfl, h1, h4⟩
    exact ⟨rfl, blk_put o' (by omega) h1, below_putW o' ho hc hwk (by omega) h4⟩
  · rintro i v A k o o' hk ho hc hwk h
    exact sl_put o' ho hc h
  · intro l W1 J Jx hs1 hb1 h0 hJI hJb hY
    have hca1 : W1.cell? ⟨L + 1, 0, none⟩ = some (.int .i64 alg) := by rw [hb1.cell (p := ⟨L + 1, 0, none⟩) (by show L + 1 < _; omega)]; exact hca
    have hcs1 : W1.cell? ⟨L + 2, 0, none⟩ = some (.slice va seed.length vc) := by rw [hb1.cell (p := ⟨L + 2, 0, none⟩) (by show L + 2 < _; omega)]; exact hcs
    have hbw : Below w.heap.size w W1 := hM.2.2.2.trans (hb1.mono hM.2.2.2.size)
    exact blocks1_any l (L + 1) (L + 2) alg ha seed HX.out.2.1 hl _ 200 (by omega) 5 J Jx (fun i A h => (hJI i A h).2) hJb W1 h0 (by omega) hca1 hcs1 (below_sl hbw HX.out.1) hY
  · intro l v A K hK
    gi_wp2
    exact hK
  · rintro l i v A hi ⟨⟨hA, hB, hI0, hBw⟩, hT⟩ hsA hy
    obtain ⟨z, hz⟩ : ∃ z, siz alg = z := ⟨_, rfl⟩
    rw [hz] at hA hB hI0 hsz
    obtain ⟨r, hr⟩ : ∃ r, n - i * z = r := ⟨_, rfl⟩
    rw [hr] at hA hB
    obtain ⟨S, hS⟩ : ∃ S, (mdg alg seed i).take n ++ List.replicate r (0 : Int) = S := ⟨_, rfl⟩
    rw [hS] at hA
    obtain ⟨D, hD⟩ : ∃ D, dig alg (seed ++ be 4 i) = D := ⟨_, rfl⟩
    rw [hD] at hy
    have hDl : D.length = z := by rw [← hD, dig_len, hz]
    have hml : (mdg alg seed i).length = i * z := by rw [mdg_len, hz]
    have hSl : S.length = n := by rw [← hS, List.length_append, List.length_take, hml, List.length_replicate]; omega
    have hir : i * z + r = n := by
      rcases hI0 with h | h
      · subst h; simp at hr ⊢; omega
      · omega
    obtain ⟨c, hc⟩ : ∃ c, Nat.min z r = c := ⟨_, rfl⟩
    have hcz : c ≤ z ∧ c ≤ r ∧ (c = z ∨ c = r) := by
      rw [← hc]
      refine ⟨Nat.min_le_left _ _, Nat.min_le_right _ _, ?_⟩
      rcases Nat.le_total z r with h | h
      · exact .inl (Nat.min_eq_left h)
      · exact .inr (Nat.min_eq_right h)
    have hSe : S = mdg alg seed i ++ List.replicate r 0 := by rw [← hS, List.take_of_length_le (by omega)]
    have hov : over (S.map (Value.int .u8)) (i * z) ((D.take c).map (Value.int .u8)) = (mdg alg seed i ++ (D.take c ++ List.replicate (r - c) 0)).map (Value.int .u8) := by
      rw [hSe]
      unfold over
      have e1 : ((D.take c).map (Value.int .u8)).length = c := by simp; omega
      rw [e1, List.map_append, List.take_append_of_le_length (by simp [hml]), List.take_of_length_le (by simp [hml]), List.drop_append]
      simp only [List.length_map, hml, List.map_append]
      rw [List.drop_of_length_le (by simp [hml]), show i * z + c - i * z = c by omega]
      simp
    have hAd : Blk 5 A.drew w.heap.size (S.map (Value.int .u8)) := hA
    have hBd : Blk 22 A.drew L [.slice (some ⟨w.heap.size, i * z, none⟩) r r] := hB
    have hyd : Sl .u8 A.drew v D := hy
    have hBwd : Below w.heap.size w A.drew := hBw.drew
    have hb0 : (r == c) = false ∨ (r == c) = true := by cases (r == c) <;> simp
    have HE : Hid (∀ w', Blk 5 w' w.heap.size ((mdg alg seed i ++ (D.take c ++ List.replicate (r - c) 0)).map (Value.int .u8)) → Upd A.drew w' w.heap.size →
        Blk 22 w' L [.slice (some ⟨w.heap.size, i * z, none⟩) r r] ∧
        (fun W : World => Blk 22 W L [.slice (some ⟨w.heap.size, if r = c then i * z else i * z + c, none⟩) (r - c) (r - c)] ∧ Kept W2.heap.size A W ∧
          (r - c = 0 → MX alg seed n w W) ∧ (¬ r - c = 0 → i + 1 < 200 ∧ MI alg seed n w L (i + 1) W ∧ Tabs W)) (w'.setCell ⟨L, 0, none⟩ (.slice (some ⟨w.heap.size, if r = c then i * z else i * z + c, none⟩) (r - c) (r - c)))) := fun w' hb hu => by
      have hL' : Blk 22 w' L [.slice (some ⟨w.heap.size, i * z, none⟩) r r] := hu.blk hBd (by omega)
      refine ⟨hL', ?_⟩
      have hs := hL'.set 0 (.slice (some ⟨w.heap.size, if r = c then i * z else i * z + c, none⟩) (r - c) (r - c))
      have hu2 : Upd w' (w'.setCell ⟨L, 0, none⟩ (.slice (some ⟨w.heap.size, if r = c then i * z else i * z + c, none⟩) (r - c) (r - c))) L := Upd.set _ _ _ _
      have hb2 := hu2.blk hb (by omega)
      have hbl1 := hu.below hBwd hBwd.size (Nat.le_refl _)
      have hbl2 := hu2.below hbl1 hbl1.size (by omega)
      have hkp : Kept W2.heap.size A (w'.setCell ⟨L, 0, none⟩ (.slice (some ⟨w.heap.size, if r = c then i * z else i * z + c, none⟩) (r - c) (r - c))) := Kept.trans (W' := w') ⟨hu.size, fun k hk hlt => hu.block k hlt (by simp; omega)⟩ (Kept.upd hu2 (by omega))
      refine ⟨by simpa using hs, hkp, fun h0 => ⟨?_, hbl2⟩, fun h0 => ?_⟩
      · have hrc : r = c := by omega
        have e2 : mdg alg seed i ++ (D.take c ++ List.replicate (r - c) 0) = msk alg seed n := by
          rw [h0, List.replicate_zero, List.append_nil]
          have h3 := msk_of (alg := alg) (seed := seed) (n := n) (k := i + 1) (by omega) (by rw [hz, Nat.succ_mul]; omega)
          rw [← h3, mdg_succ, hD, List.take_append, List.take_of_length_le (l := mdg alg seed i) (by omega), hml, show n - i * z = c by omega]
        rw [e2] at hb2; exact hb2
      · have hcz' : c = z := by omega
        refine ⟨?_, ⟨?_, ?_, .inr (by rw [hz, Nat.succ_mul]; omega), hbl2⟩, ?_⟩
        · have : i * 20 ≤ i * z ∨ z < 20 := by
            rcases Nat.lt_or_ge z 20 with h | h
            · exact .inr h
            · exact .inl (Nat.mul_le_mul_left _ h)
          have hz20 : 20 ≤ z := by rw [← hz]; rcases ha with rfl | rfl | rfl | rfl <;> decide
          omega
        · have e3 : mdg alg seed i ++ (D.take c ++ List.replicate (r - c) 0) = (mdg alg seed (i + 1)).take n ++ List.replicate (n - (i + 1) * siz alg) 0 := by
            have t1 : (mdg alg seed i ++ D).take n = mdg alg seed i ++ D := List.take_of_length_le (by rw [List.length_append, hml, hDl]; omega)
            have t2 : D.take c = D := List.take_of_length_le (by omega)
            rw [mdg_succ, hD, t1, t2, hz, Nat.succ_mul, show r - c = n - (i * z + z) by omega, List.append_assoc]
          rw [e3] at hb2; exact hb2
        · have e4 : (if r = c then i * z else i * z + c) = (i + 1) * siz alg := by rw [if_neg (by omega), hz, Nat.succ_mul, hcz']
          have e5 : r - c = n - (i + 1) * siz alg := by rw [hz, Nat.succ_mul]; omega
          rw [← e5, ← e4]
          simpa using hs
        · have hT8 := hT.size
          have hw8 := HX.out.2.2.size
          have hds : A.drew.heap.size = A.heap.size := rfl
          have hus := hu.size
          exact hT.kept (by have := hu2.size; omega) fun b hb => (hu2.block b (by omega) (by simp; omega)).trans (hu.block b (by omega) (by simp; omega))
    have HsW : Hid (W2.heap.size = L + 3) := hsW
    clear hsW
    gi_wp2
    refine mask_region l 5 (Z := fun w' => Blk 5 w' w.heap.size ((mdg alg seed i ++ (D.take c ++ List.replicate (r - c) 0)).map (Value.int .u8)) ∧ Upd A.drew w' w.heap.size) (left := .slice (some ⟨w.heap.size, i * z, none⟩) r r) (new := .slice (some ⟨w.heap.size, if r = c then i * z else i * z + c, none⟩) (r - c) (r - c)) (c := c)
      (fun W h => ld_cell W L _ h) (hBd.cell 0) (fun w' h => (HE.out w' h.1 h.2).1.cell 0) ?_ (fun w' _ => sl_part w' _ _ _ _ hcz.2.1) (fun w' h => st_cell w' L _ _ _ _ _ rfl (HE.out w' h.1 h.2).1) ?_
    · intro b K h30 h31 hK
      refine wp_of_list rfl fun ops Q' hKQ => ?_
      refine wpList_cpB rfl (.tmp 30) (.tmp 31) 22 rfl .u8 5 5 Tryz.und8 Tryz.one8 w.heap.size (i * z) r r (S.map (Value.int .u8)) D hAd v h30 h31 hyd c (by rw [hDl]; exact hc.symm) (by simp [hSl]; omega) ?_
      intro w' hb hu
      rw [hov] at hb
      exact hKQ _ _ (hK w' ⟨hb, hu⟩)
    · rintro w' ⟨hb, hu⟩
      obtain ⟨_, g1, g2, g3, g4⟩ := HE.out w' hb hu
      have hcL := g1.cell 0
      obtain ⟨W5, hW5⟩ : ∃ W5, w'.setCell ⟨L, 0, none⟩ (.slice (some ⟨w.heap.size, if r = c then i * z else i * z + c, none⟩) (r - c) (r - c)) = W5 := ⟨_, rfl⟩
      rw [hW5] at g2 g3 g4 hcL
      have HG : Hid (Kept W2.heap.size A W5 ∧ (r - c = 0 → MX alg seed n w W5) ∧ (¬ r - c = 0 → i + 1 < 200 ∧ MI alg seed n w L (i + 1) W5 ∧ Tabs W5)) := ⟨g2, g3, g4⟩
      rw [hW5]
      clear hb hu g1 g2 g3 g4 hW5 HE hAd hBd hyd hBwd hov hSe hS hr hc hA hB hI0 hBw hT hir
      obtain ⟨o5, ho5⟩ : ∃ o5, (if r = c then i * z else i * z + c) = o5 := ⟨_, rfl⟩
      rw [ho5] at hcL
      simp only [ho5]
      clear ho5
      obtain ⟨q, hq⟩ : ∃ q, r - c = q := ⟨_, rfl⟩
      rw [hq] at hcL HG
      simp only [hq]
      clear hq
      by_cases h0 : q = 0
      · subst h0
        gi_wp2
        exact ⟨HG.out.1, rfl, HG.out.2.1 (by trivial)⟩
      · have hq0 : ((q : Int) == 0) = false := by simp; omega
        gi_wp2
        exact ⟨HG.out.1, HG.out.2.2 h0⟩
  · rintro c A ⟨rfl, hX⟩ hd
    have HXX : Hid (MX alg seed n w A) := hX
    refine wpIn_wide.2 ?_
    go_wp2
    refine ⟨by simp, .inl ⟨_, _, rfl, run_takeDeferred hd, ?_⟩⟩
    refine ⟨_, results_tmp2 rfl _ _ _, rfl, ?_⟩
    exact ⟨blk_put _ (by omega) HXX.out.1, below_putW _ hd rfl rfl (by omega) HXX.out.2⟩
end Go.Proofs.YtjmiaakfdclfjaaGreatDoor.Sh
/-
  Rsa: a known key; the page's examples.
-/
namespace Go.Proofs.YtjmiaakfdclfjaaGreatDoor
open Go.RowKit
set_option maxRecDepth 20000
def N0 : List Int := [0x4d368993, 0xbd239ed7, 0x7f660fec, 0x5c52dae0, 0xb92836b8, 0xeb5d617a, 0x3e884e90, 0x2e743e19, 0xf35a4c54, 0x3f02356d, 0x4695617f, 0x530db8be, 0x6bfc8fd8, 0xf6f01e76, 0xb9b2dddf, 0xa54d61cc]
def D0 : List Int := [0xf140e4d7, 0xda361bca, 0xee9c3a3d, 0x428bc42f, 0x655f8511, 0x1b9e016c, 0x10815672, 0xc319b971, 0xfde4620d, 0x8a805e3c, 0xb66e3aea, 0x632cf41f, 0xbcaa17f9, 0xa9280513, 0x1ef324fa, 0x1b8ce5a2]
theorem key0 : keySz N0 [3] = 64 := by decide +kernel
theorem key15 : keyOk [15] [3] = false := by decide +kernel
theorem msk_foo : Sh.msk 1 [102, 111, 111] 3 = [26, 201, 7] := by decide +kernel
theorem pad_0 : (padB 1 (List.replicate 20 0) 46).getD 1 0 = 1 ∧ (padB 1 (List.replicate 20 0) 46).getD 10 0 = 0 ∧ (padB 1 (List.replicate 20 0) 46).getD 11 0 = 48 ∧ (namB 1 (List.replicate 20 0)).length + 11 ≤ 46 ∧ isD 1 20 = true := by decide +kernel
set_option maxHeartbeats 1000000 in
theorem Known0 {w : World} : Calls Tryz.prog 5 #[.int .i64 0] w fun e w' => ∃ a a' v, e = .returned (.tuple #[.agg #[.slice a 16 16, .slice a' 1 1], v]) ∧ Sl .u32 w' (.slice a 16 16) N0 ∧ Sl .u32 w' (.slice a' 1 1) [3] ∧ Below w.heap.size w w' := by
  go_enter Tryz.func5, Tryz.ntmps5
  go_wp2
  have k0 := (((Blk.new 26 w [.slice (some ⟨w.heap.size + 1, 0, none⟩) 16 16, .slice (some ⟨w.heap.size + 1 + 1, 0, none⟩) 1 1]).alloc (.cells (N0.map (Value.int .u32)).toArray 38)).alloc (.cells #[.int .u32 3] 38)).alloc (.cells (D0.map (Value.int .u32)).toArray 38)
  have k1 := ((Blk.new 38 (w.alloc (.cells #[.slice (some ⟨w.heap.size + 1, 0, none⟩) 16 16, .slice (some ⟨w.heap.size + 1 + 1, 0, none⟩) 1 1] 26)) (N0.map (Value.int .u32))).alloc (.cells #[.int .u32 3] 38)).alloc (.cells (D0.map (Value.int .u32)).toArray 38)
  have k2 := (Blk.new 38 ((w.alloc (.cells #[.slice (some ⟨w.heap.size + 1, 0, none⟩) 16 16, .slice (some ⟨w.heap.size + 1 + 1, 0, none⟩) 1 1] 26)).alloc (.cells (N0.map (Value.int .u32)).toArray 38)) [.int .u32 3]).alloc (.cells (D0.map (Value.int .u32)).toArray 38)
  have hbw := (((al1 (w := w) (.cells #[.slice (some ⟨w.heap.size + 1, 0, none⟩) 16 16, .slice (some ⟨w.heap.size + 1 + 1, 0, none⟩) 1 1] 26)).alloc (by simp) (.cells (N0.map (Value.int .u32)).toArray 38)).alloc (by simp; omega) (.cells #[.int .u32 3] 38)).alloc (by simp; omega) (.cells (D0.map (Value.int .u32)).toArray 38)
  simp only [World.size_alloc] at k1 k2
  refine bodyPost_ret (v := .tuple #[.agg #[.slice (some ⟨w.heap.size + 1, 0, none⟩) 16 16, .slice (some ⟨w.heap.size + 1 + 1, 0, none⟩) 1 1], .slice (some ⟨w.heap.size + 1 + 1 + 1, 0, none⟩) 16 16]) ?_ rfl ⟨_, _, _, rfl, ?_, ?_, hbw⟩
  · rw [results_cell_tmp rfl]
    have e := run_loadVar_mid (P := Tryz.prog) _ w.heap.size 0 26 _ _ k0.whole Tryz.underlying26 rfl (by kernel_rfl)
    have e0 : ∀ W : World, (asAddr (.pointer (some ⟨w.heap.size, 0, none⟩))).run Tryz.prog W = .ok ⟨w.heap.size, 0, none⟩ W := fun W => rfl
    show Result.andThen ((asAddr (.pointer (some ⟨w.heap.size, 0, none⟩))).run Tryz.prog _) _ = _
    rw [e0]
    simp only [Result.andThen_ok]
    exact congrArg (fun r => Result.andThen r _) e
  · exact (show Arr .u32 38 _ (w.heap.size + 1) N0 from k1).sl
  · exact (show Arr .u32 38 _ (w.heap.size + 1 + 1) [3] from k2).sl
end Go.Proofs.YtjmiaakfdclfjaaGreatDoor
/-
  Rsa: the page's examples hold.
-/
namespace Go.Proofs.YtjmiaakfdclfjaaGreatDoor
open Go.RowKit
set_option maxRecDepth 20000
theorem num8_any (z : Int) (w : World) : Calls Tryz.prog 8 #[.int .i64 z] w fun e w' => e = .returned (.int .i64 z) ∧ w = w' := by
  go_enter Tryz.func8, Tryz.ntmps8
  go_wp2
  go_ret
  exact ⟨rfl, rfl⟩
theorem sl_str {w : World} {d n c : Nat} {xs : List Int} (h : Sl .u8 w (.slice (some ⟨d, 0, none⟩) n c) xs) (hn : xs.length = n) (h0 : 0 < n) : Sem.run Tryz.prog (convert 22 9 (.slice (some ⟨d, 0, none⟩) n c)) w = .ok (.string (strOfNums xs)) w := by
  obtain ⟨a, c', he, _, h⟩ := h
  cases he
  rcases h with h | ⟨b, off, hb, _, hr⟩
  · rw [h] at h0; simp at h0
  · cases hb
    exact run_convert_bytes_arg w _ _ Tryz.und8 Tryz.e8 d 0 _ c xs rfl (fun i hi => hr i hi) _ Tryz.str
theorem sl_at {w : World} {d n c : Nat} {xs : List Int} (h : Sl .u8 w (.slice (some ⟨d, 0, none⟩) n c) xs) (hn : xs.length = n) (i : Nat) (hi : i < n) : w.cell? ⟨d, i, none⟩ = some (.int .u8 (xs.getD i 0)) := by
  obtain ⟨a, c', he, _, h⟩ := h
  cases he
  rcases h with h | ⟨b, off, hb, _, hr⟩
  · rw [h] at hi; simp at hi
  · cases hb
    have := hr i hi
    simpa using this
set_option maxHeartbeats 4000000 in
theorem live8_any {w : World} (hT : Sh.Tabs w) : Calls Tryz.prog 4 #[] w fun e w' => e = .returned (.bool true) ∧ Below w.heap.size w w' := by
  have HT : Hid (Sh.Tabs w) := hT
  clear hT
  have kc := fun (w : World) (C : Array Value) (n c : Nat) => Lib.run_convert_bytes_const (P := Tryz.prog) w 22 5 C n c Tryz.und8 Tryz.e8
  go_enter Tryz.func4, Tryz.ntmps4
  go_wp2_with fail
  refine (Sh.Mask_any (w := w.alloc _) 1 (.inl rfl) (HT.out.below (al1 _)) _ [102, 111, 111] (new_sl [102, 111, 111] _) (by intro x hx; unfold Sh.U8; simp at hx; omega) (by decide) 3 (by decide)).mono ?_
  rintro e w1 ⟨rfl, hA1, hB1⟩
  rw [msk_foo] at hA1
  obtain ⟨m, hm⟩ : ∃ m, w.heap.size + 1 = m := ⟨_, rfl⟩
  simp only [World.size_alloc, hm] at hA1 hB1 ⊢
  have H1 : Hid (Sl .u8 w1 (.slice (some ⟨m, 0, none⟩) 3 3) [26, 201, 7] ∧ Below w.heap.size w w1) := ⟨hA1.sl, by have h := below_via (al1 _) (by rw [World.size_alloc, hm]; exact hB1) (Nat.le_refl _); exact h⟩
  clear hA1 hB1 hm
  clear kc
  go_upto_region 3 with (first
    | (refine wpList_mk w1 rfl (.const (.int .i64 20)) (.const (.int .i64 20)) 22 rfl .u8 5 1 Tryz.und8 Tryz.info8 20 20 rfl rfl rfl (by decide) (by decide) ?_; intro w2 hA2 hB2
       have H2 : Hid (Sl .u8 w2 (.slice (some ⟨w1.heap.size, 0, none⟩) 20 20) (List.replicate 20 0) ∧ Sl .u8 w2 (.slice (some ⟨m, 0, none⟩) 3 3) [26, 201, 7] ∧ Below w.heap.size w w2) := ⟨hA2.sl, below_sl hB2 H1.out.1, below_via H1.out.2 hB2 (Nat.le_refl _)⟩
       clear hA2 hB2)
    | (go_at_call 11; refine (Pad_any (w := w2) 1 (some ⟨w1.heap.size, 0, none⟩) 20 20 (List.replicate 20 0) H2.out.1 (by intro x hx; rw [(List.mem_replicate.1 hx).2]; exact ⟨by decide, by decide⟩) rfl pad_0.2.2.2.2 46 (by decide) pad_0.2.2.2.1).mono ?_; rintro e w3 ⟨q, rfl, hq, hs3, hb3⟩
       have H3 : Hid (Sl .u8 w3 (.slice (some ⟨q, 0, none⟩) 46 46) (padB 1 (List.replicate 20 0) 46) ∧ Sl .u8 w3 (.slice (some ⟨m, 0, none⟩) 3 3) [26, 201, 7] ∧ Below w.heap.size w w3) := ⟨hs3, below_sl hb3 H2.out.2.1, below_via H2.out.2.2 hb3 (Nat.le_refl _)⟩
       clear hq hs3 hb3))
  go_upto_region 4 with (go_at_call 5; refine (Known0 (w := w3)).mono ?_; rintro e w4 ⟨a, a', v, rfl, hn4, he4, hb4⟩)
  have H4 : Hid (Sl .u32 w4 (.slice a 16 16) N0 ∧ Sl .u32 w4 (.slice a' 1 1) [3] ∧ Sl .u8 w4 (.slice (some ⟨q, 0, none⟩) 46 46) (padB 1 (List.replicate 20 0) 46) ∧ Sl .u8 w4 (.slice (some ⟨m, 0, none⟩) 3 3) [26, 201, 7] ∧ Below w.heap.size w w4) := ⟨hn4, he4, below_sl hb4 H3.out.1, below_sl hb4 H3.out.2.1, below_via H3.out.2.2 hb4 (Nat.le_refl _)⟩
  clear hn4 he4 hb4
  refine Sh.wp_gen (fun W => Blk 26 W w4.heap.size [.slice a 16 16, .slice a' 1 1] ∧ Below w4.heap.size w4 W) ⟨Blk.new _ w4 _, al1 _⟩ ?_
  rintro W5 ⟨hB5, hb5⟩
  have hcv := sl_str (below_sl hb5 H4.out.2.2.2.1) rfl (by decide)
  have e1 := sl_at (below_sl hb5 H4.out.2.2.1) (by decide +kernel) 1 (by decide)
  have e2 := sl_at (below_sl hb5 H4.out.2.2.1) (by decide +kernel) 10 (by decide)
  have e3 := sl_at (below_sl hb5 H4.out.2.2.1) (by decide +kernel) 11 (by decide)
  rw [pad_0.1] at e1
  rw [pad_0.2.1] at e2
  rw [pad_0.2.2.1] at e3
  rw [show strOfNums [26, 201, 7] = ⟨#[26, 201, 7]⟩ by decide +kernel] at hcv
  have hN0 : U32s N0 := by intro x hx; unfold U32; simp [N0] at hx; omega
  have h3u : U32s [3] := by intro x hx; unfold U32; simp at hx; omega
  have HCk : Hid (∀ o1 o2 : Obj, o1 = .cells #[.int .u32 15] 38 → o2 = .cells #[.int .u32 3] 38 → Calls Tryz.prog 12 #[.agg #[.slice (some ⟨W5.heap.size, 0, none⟩) 1 1, .slice (some ⟨W5.heap.size + 1, 0, none⟩) 1 1]] ((W5.alloc o1).alloc o2) fun e w' => e = .returned (.int .i64 80) ∧ Blk 26 w' w4.heap.size [.slice a 16 16, .slice a' 1 1] ∧ Below w4.heap.size w4 w') := fun o1 o2 h1 h2 => by
    subst h1; subst h2
    have hA : Arr .u32 38 (W5.alloc (.cells #[.int .u32 15] 38)) W5.heap.size [15] := Blk.new _ W5 _
    have hA' := below_arr (al1 (.cells #[.int .u32 3] 38)) hA.lt hA
    have hE : Arr .u32 38 ((W5.alloc (.cells #[.int .u32 15] 38)).alloc (.cells #[.int .u32 3] 38)) (W5.heap.size + 1) [3] := by have := Blk.new 38 (W5.alloc (.cells #[.int .u32 15] 38)) [.int .u32 3]; rw [World.size_alloc] at this; exact this
    have hB2 : Below W5.heap.size W5 ((W5.alloc (.cells #[.int .u32 15] 38)).alloc (.cells #[.int .u32 3] 38)) := (al1 _).alloc (by simp) _
    refine (Check_any _ _ 1 1 1 1 [15] [3] hA'.sl (by intro x hx; unfold U32; simp at hx; omega) rfl hE.sl h3u rfl (by decide) (by decide)).mono ?_
    rintro e w6 ⟨rfl, hb6⟩
    have hb56 := below_via hB2 hb6 (Nat.le_refl _)
    exact ⟨by rw [key15]; rfl, below_blk hb56 hB5.lt hB5, below_via hb5 hb56 (Nat.le_refl _)⟩
  have HSz : Hid (∀ W, Below w4.heap.size w4 W → Calls Tryz.prog 13 #[.agg #[.slice a 16 16, .slice a' 1 1]] W fun e w' => e = .returned (.int .i64 64) ∧ Below w.heap.size w w') := fun W hW =>
    (Size_key a a' 16 16 1 1 N0 [3] (below_sl hW H4.out.1) hN0 rfl (below_sl hW H4.out.2.1) h3u rfl (by decide) (by decide) (by decide +kernel)).mono fun _ _ h => ⟨by rw [h.1, key0]; rfl, below_via (below_via H4.out.2.2.2.2 hW (Nat.le_refl _)) h.2 (Nat.le_refl _)⟩
  clear hB5 hb5 hN0 h3u
  go_wp2_with (first
    | (go_at_call 8; refine (num8_any _ _).mono ?_; rintro e w' ⟨rfl, rfl⟩)
    | (go_at_call 12; refine (HCk.out _ _ rfl rfl).mono ?_; rintro e w6 ⟨rfl, hr6, hb6⟩; have c60 : w6.cell? ⟨w4.heap.size, 0, none⟩ = some (.slice a 16 16) := hr6.cell 0; have c61 : w6.cell? ⟨w4.heap.size, 1, none⟩ = some (.slice a' 1 1) := hr6.cell 1; have HR6 : Hid (Below w4.heap.size w4 w6) := hb6; clear hr6 hb6)
    | (go_at_call 13; refine (HSz.out _ HR6.out).mono ?_; rintro e w7 ⟨rfl, hb7⟩))
  go_ret
  exact ⟨rfl, hb7⟩
end Go.Proofs.YtjmiaakfdclfjaaGreatDoor
