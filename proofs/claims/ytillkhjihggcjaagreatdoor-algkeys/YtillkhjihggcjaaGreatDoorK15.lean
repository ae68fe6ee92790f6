/-
  Der: the page's example of an object identifier laid.
-/
import Derived.Lib.OthersKept
import Derived.Laws.RangeString
import Derived.Test.YtillkhjihggcjaaGreatDoorK14
namespace Go.Proofs.YtillkhjihggcjaaGreatDoor
open Go.RowKit
abbrev exS : ByteArray := ⟨#[50, 46, 57, 57, 57]⟩
def It (w W : World) (pos : Nat) : Prop := W.heap[w.heap.size]? = some (.stringIter exS pos) ∧ Below w.heap.size w W
theorem It.step {w W : World} {pos : Nat} (h : It w W pos) (pos' : Nat) : It w (W.iterAt w.heap.size exS pos') pos' := ⟨Lib.iterAt_heap W _ exS pos pos' h.1, Lib.below_iterAt h.2 (Nat.le_refl _) _ _⟩
theorem It.below {w W W' : World} {pos : Nat} (h : It w W pos) (hb : Below (w.heap.size + 1) W W') : It w W' pos := ⟨by rw [hb.block _ (by omega)]; exact h.1, h.2.trans (hb.mono (by omega))⟩
theorem It.lt {w W : World} {pos : Nat} (h : It w W pos) : w.heap.size < W.heap.size := (Array.getElem?_eq_some_iff.1 h.1).1
end Go.Proofs.YtillkhjihggcjaaGreatDoor
/-
  Der: the page's examples, all.
-/
namespace Go.Proofs.YtillkhjihggcjaaGreatDoor
open Go.RowKit
end Go.Proofs.YtillkhjihggcjaaGreatDoor
/-
  Der: which heads may be.
-/
namespace Go.Proofs.YtillkhjihggcjaaGreatDoor
open Go.RowKit
def headOk (class_ tag : Int) : Bool := decide (0 ≤ class_ ∧ class_ ≤ 3 ∧ 0 ≤ tag ∧ tag ≤ 268435455 ∧ ¬ (class_ = 0 ∧ tag = 0))
set_option maxHeartbeats 2000000 in
theorem isHead_any {w : World} (c t : Int) : Calls Tryz.prog 133 #[.int .i64 c, .int .i64 t] w fun e w' => e = .returned (.bool (headOk c t)) ∧ w = w' := by
  have HH : Hid (headOk c t = decide (0 ≤ c ∧ c ≤ 3 ∧ 0 ≤ t ∧ t ≤ 268435455 ∧ ¬ (c = 0 ∧ t = 0))) := rfl
  obtain ⟨r, hr⟩ : ∃ r, headOk c t = r := ⟨_, rfl⟩
  rw [hr] at HH ⊢
  clear hr
  by_cases h1 : c < 0
  · have HF : Hid (r = false) := by show _ = _; rw [HH.out]; simp; omega
    go_enter Tryz.func133, Tryz.ntmps133
    go_wp2
    go_ret
    exact ⟨by rw [HF.out]; rfl, rfl⟩
  by_cases h2 : 3 < c
  · have HF : Hid (r = false) := by show _ = _; rw [HH.out]; simp; omega
    go_enter Tryz.func133, Tryz.ntmps133
    go_wp2
    go_ret
    exact ⟨by rw [HF.out]; rfl, rfl⟩
  by_cases h3 : t < 0
  · have HF : Hid (r = false) := by show _ = _; rw [HH.out]; simp; omega
    go_enter Tryz.func133, Tryz.ntmps133
    go_wp2
    go_ret
    exact ⟨by rw [HF.out]; rfl, rfl⟩
  by_cases h4 : 268435455 < t
  · have HF : Hid (r = false) := by show _ = _; rw [HH.out]; simp; omega
    go_enter Tryz.func133, Tryz.ntmps133
    go_wp2
    go_ret
    exact ⟨by rw [HF.out]; rfl, rfl⟩
  by_cases h5 : c = 0
  · subst h5
    by_cases h6 : t = 0
    · subst h6
      have HF : Hid (r = false) := by show _ = _; rw [HH.out]; simp
      go_enter Tryz.func133, Tryz.ntmps133
      go_wp2
      go_ret
      exact ⟨by rw [HF.out]; rfl, rfl⟩
    · have HF : Hid (r = true) := by show _ = _; rw [HH.out]; simp; omega
      have h6b : (t != 0) = true := by simpa using h6
      go_enter Tryz.func133, Tryz.ntmps133
      go_wp2
      go_ret
      exact ⟨by rw [HF.out]; rfl, rfl⟩
  · have HF : Hid (r = true) := by show _ = _; rw [HH.out]; simp; omega
    have h5b : (c != 0) = true := by simpa using h5
    go_enter Tryz.func133, Tryz.ntmps133
    go_wp2
    go_ret
    exact ⟨by rw [HF.out]; rfl, rfl⟩
end Go.Proofs.YtillkhjihggcjaaGreatDoor
/-
  Der: the reader: the end, a fault, a long tag.
-/
namespace Go.Proofs.YtillkhjihggcjaaGreatDoor
open Go.RowKit
def posOf : Option Value → Nat
  | some v => (intOf v).toNat
  | none => 0
theorem Rdr.pos {w : World} {g b off n c p : Nat} (h : Rdr w g b off n c p) : posOf (w.cell? ⟨g, 1, none⟩) = p := by
  have c1 : w.cell? ⟨g, 1, none⟩ = some (.int .i64 p) := h.cell 1
  rw [c1]; simp [posOf, intOf]
theorem or_i64 (s : Nat) (x y : Int) (hx0 : 0 ≤ x) (hx : x * 2 ^ s < 9223372036854775808) (hy0 : 0 ≤ y) (hy : y < 2 ^ s) (hs : s ≤ 32) : bits .or .i64 (x * 2 ^ s) y = x * 2 ^ s + y := by
  obtain ⟨a, rfl⟩ := Int.eq_ofNat_of_zero_le hx0
  obtain ⟨b, rfl⟩ := Int.eq_ofNat_of_zero_le hy0
  have e : ((a * 2 ^ s : Nat) : Int) = (a : Int) * 2 ^ s := by simp
  have hb : b < 2 ^ s := by
    have : ((b : Nat) : Int) < ((2 ^ s : Nat) : Int) := by rw [Int.natCast_pow]; exact hy
    exact Int.ofNat_lt.1 this
  have ha : a * 2 ^ s < 2 ^ 63 := by
    have : ((a * 2 ^ s : Nat) : Int) < ((2 ^ 63 : Nat) : Int) := by rw [e]; exact hx
    exact Int.ofNat_lt.1 this
  have hb2 : b < 2 ^ 63 := Nat.lt_of_lt_of_le hb (Nat.pow_le_pow_right (by decide) (by omega))
  have h := (bits_nat .i64 63 (by decide) (fun n h₀ h₁ => by rw [IntKind.wrap_i64]; omega) (a * 2 ^ s) b ha hb2).2
  rw [e] at h
  rw [h, Nat.mul_comm a, ← Nat.two_pow_add_eq_or_of_lt hb a, Nat.mul_comm, Int.natCast_add, e]
set_option maxHeartbeats 1000000 in
theorem next_end {w : World} (g b off n c : Nat) (hR : Rdr w g b off n c n) :
    Calls Tryz.prog 131 #[.pointer (some ⟨g, 0, none⟩)] w fun e w' => e = .returned (.tuple #[.int .u8 0, .int .i64 2]) ∧ Upd w w' g ∧ Rdr w' g b off n c n := by
  have c0 : w.cell? ⟨g, 0, none⟩ = some (.slice (some ⟨b, off, none⟩) n c) := hR.cell 0
  have c1 : w.cell? ⟨g, 1, none⟩ = some (.int .i64 n) := hR.cell 1
  have HR : Hid (Rdr w g b off n c n) := hR
  clear hR
  go_enter Tryz.func131, Tryz.ntmps131
  go_upto_region 1 with (fail)
  go_quiet (fail)
  go_wp2
  go_ret2
  exact ⟨rfl, ⟨rfl, rfl, rfl, Nat.le_refl _, fun _ _ _ => rfl⟩, HR.out.drewN _⟩
set_option maxHeartbeats 1000000 in
theorem fault_any {w : World} (g b off n c p a : Nat) (x : Int) (hR : Rdr w g b off n c p) :
    Calls Tryz.prog 134 #[.pointer (some ⟨g, 0, none⟩), .int .i64 x, .int .i64 a] w fun e w' => e = .returned (.int .i64 x) ∧ Upd w w' g ∧ Rdr w' g b off n c a := by
  have c1 : w.cell? ⟨g, 1, none⟩ = some (.int .i64 p) := hR.cell 1
  have f1 := hR.frozen 1
  have HR : Hid (Rdr w g b off n c p) := hR
  clear hR
  go_enter Tryz.func134, Tryz.ntmps134
  go_wp2
  go_ret
  exact ⟨rfl, Upd.set _ _ _ _, HR.out.set 1 (.int .i64 a)⟩
set_option maxRecDepth 20000 in
set_option maxHeartbeats 4000000 in
theorem longTag_any {w : World} (g b off n c p : Nat) (M : List Int) (hR : Rdr w g b off n c p) (hM : Rd .u8 w b off M) (uM : U8s M) (hMl : M.length = n) (hn : n ≤ 16777216) (hb : b < w.heap.size) (hbg : b ≠ g) (hp : p ≤ n) :
    Calls Tryz.prog 132 #[.pointer (some ⟨g, 0, none⟩)] w fun e w' => e = .returned (.tuple #[.int .i64 (lng M p 0).v, .int .i64 (lng M p 0).e]) ∧ Upd w w' g ∧ Rdr w' g b off n c (lng M p 0).at := by
  have HX : Hid (Rdr w g b off n c p ∧ Rd .u8 w b off M ∧ U8s M ∧ M.length = n) := ⟨hR, hM, uM, hMl⟩
  obtain ⟨O, hO⟩ : ∃ O, lng M p 0 = O := ⟨_, rfl⟩
  have HO : Hid (lng M p 0 = O) := hO
  rw [hO]
  clear hR hM uM hMl hO
  go_enter Tryz.func132, Tryz.ntmps132
  go_wp2_with fail
  go_loopw [4] (fun tv wr => ∃ (i : Nat) (t : Int), tv = .int .i64 t ∧ i ≤ n ∧ 0 ≤ t ∧ t ≤ 268435455 ∧ Rdr wr g b off n c i ∧ Upd w wr g ∧ lng M i t = O) (fun _ wr => n - posOf (wr.cell? ⟨g, 1, none⟩))
  case atStart => exact ⟨p, 0, rfl, hp, by decide, by decide, HX.out.1, Upd.refl _ _, HO.out⟩
  case round =>
    obtain ⟨i, t, rfl, hi, t0, t1, hr, hu, hl⟩ := hrel
    have H1 : Hid (Rdr wr g b off n c i ∧ Upd w wr g ∧ lng M i t = O) := ⟨hr, hu, hl⟩
    clear hr hu hl
    by_cases hlt : i < n
    · obtain ⟨x, hx⟩ : ∃ x, M.getD i 0 = x := ⟨_, rfl⟩
      have hxu := HX.out.2.2.1.at i
      rw [hx] at hxu
      have HU : Hid (U8 x) := hxu
      obtain ⟨t', ht'⟩ : ∃ t', t * 128 + x % 128 = t' := ⟨_, rfl⟩
      have HS : Hid (O = if t' = 0 ∨ 268435455 < t' ∨ (x < 128 ∧ t' < 31) then .inl (30, i) else if x < 128 then .inr (t', (i + 1)) else lng M (i + 1) t') := by
        show _ = _
        rw [← H1.out.2.2]
        exact lng_step (by have := HX.out.2.2.2; omega) hx ht'
      have e1 := and_127 x hxu
      have e2 := or_i64 7 t (x % 128) t0 (by omega) (by omega) (by omega) (by decide)
      rw [show t * 2 ^ 7 = t * 128 from rfl, ht'] at e2
      have x0 : 0 ≤ x % 128 := by omega
      have x1 : x % 128 ≤ 127 := by omega
      obtain ⟨y, hy⟩ : ∃ y, x % 128 = y := ⟨_, rfl⟩
      rw [hy] at e1 e2 x0 x1
      have HT : Hid (0 ≤ t' ∧ t * 128 + y = t' ∧ t' ≤ 34359738367) := ⟨by omega, by omega, by omega⟩
      clear hxu ht' hy
      go_wp2_with fail
      refine (next_any g b off n c i x H1.out.1 hlt hn ?_).mono ?_
      · rw [H1.out.2.1.rd hb HX.out.2.1 hbg i (by have := HX.out.2.2.2; omega), hx]
      rintro e w1 ⟨rfl, hu, hr⟩
      obtain ⟨i1, hi1⟩ : ∃ i1, i + 1 = i1 := ⟨_, rfl⟩
      rw [hi1] at hr
      have H2 : Hid (Rdr w1 g b off n c i1 ∧ Upd w w1 g ∧ i + 1 = i1) := ⟨hr, H1.out.2.1.trans hu, hi1⟩
      have d1 : w1.cell? ⟨g, 1, none⟩ = some (.int .i64 (i1 : Int)) := hr.cell 1
      have d2 : (i1 : Int) - 1 = (i : Int) := by omega
      have d3 : i1 ≤ n := by omega
      clear hu hr hx hi1
      have bad : Hid (t' = 0 ∨ 268435455 < t' ∨ (x < 128 ∧ t' < 31) → O = .inl (30, i)) := by
        intro h; rw [HS.out, if_pos h]
      have u0 := HU.out.1
      have u1 := HU.out.2
      by_cases q1 : t' = 0
      · subst q1
        go_wp2_with (go_at_call 134; refine (fault_any g b off n c i1 i 30 H2.out.1).mono ?_; rintro e w2 ⟨rfl, hu2, hr2⟩)
        go_ret2
        rw [bad.out (.inl (by simp))]
        exact ⟨rfl, H2.out.2.1.trans hu2, hr2⟩
      have q1b : (t' == 0) = false := by simpa using q1
      by_cases q2 : 268435455 < t'
      · go_wp2_with (go_at_call 134; refine (fault_any g b off n c i1 i 30 H2.out.1).mono ?_; rintro e w2 ⟨rfl, hu2, hr2⟩)
        go_ret2
        rw [bad.out (.inr (.inl q2))]
        exact ⟨rfl, H2.out.2.1.trans hu2, hr2⟩
      by_cases q3 : x < 128
      · by_cases q4 : t' < 31
        · go_wp2_with (go_at_call 134; refine (fault_any g b off n c i1 i 30 H2.out.1).mono ?_; rintro e w2 ⟨rfl, hu2, hr2⟩)
          go_ret2
          rw [bad.out (.inr (.inr ⟨q3, q4⟩))]
          exact ⟨rfl, H2.out.2.1.trans hu2, hr2⟩
        · go_wp2
          go_ret2
          have h1 := HS.out
          rw [if_neg (by omega), if_pos q3, H2.out.2.2] at h1
          subst h1
          exact ⟨rfl, H2.out.2.1, H2.out.1⟩
      · go_wp2
        go_roundw
        case rel =>
          refine ⟨i1, t', rfl, d3, HT.out.1, by omega, H2.out.1, H2.out.2.1, ?_⟩
          have h1 := HS.out
          rw [if_neg (by omega), if_neg (by omega), H2.out.2.2] at h1
          exact h1.symm
        case measure => rw [H2.out.1.pos, H1.out.1.pos]; have := H2.out.2.2; omega
    · obtain rfl : i = n := by omega
      go_wp2_with fail
      refine (next_end g b off i c H1.out.1).mono ?_
      rintro e w1 ⟨rfl, hu, hr⟩
      have H2 : Hid (Rdr w1 g b off i c i ∧ Upd w w1 g) := ⟨hr, H1.out.2.1.trans hu⟩
      clear hu hr
      go_wp2
      go_ret2
      have := H1.out.2.2
      rw [lng_end (by have := HX.out.2.2.2; omega)] at this
      subst this
      refine ⟨rfl, H2.out.2, ?_⟩
      have := H2.out.1
      rw [← HX.out.2.2.2] at this ⊢
      exact this
end Go.Proofs.YtillkhjihggcjaaGreatDoor
/-
  Der: the reader: a long length, any length.
-/
namespace Go.Proofs.YtillkhjihggcjaaGreatDoor
open Go.RowKit
def LongLen (n p k : Nat) (F : Int) (D : Bool) (e : Ending) (at_ : Nat → Prop) : Prop :=
  (n < p + k ∧ e = .returned (.tuple #[.int .i64 0, .bool false, .int .i64 2]) ∧ at_ n) ∨ (p + k ≤ n ∧ e = .returned (.tuple #[.int .i64 F, .bool D, .int .i64 0]) ∧ at_ (p + k))
set_option maxRecDepth 20000 in
set_option maxHeartbeats 4000000 in
theorem longLength_any {w : World} (g b off n c p k : Nat) (M : List Int) (hR : Rdr w g b off n c p) (hM : Rd .u8 w b off M) (uM : U8s M) (hMl : M.length = n) (hn : n ≤ 16777216) (hb : b < w.heap.size) (hbg : b ≠ g) (hp : p ≤ n) (hk0 : 0 < k) (hk : k ≤ 127) :
    Calls Tryz.prog 135 #[.pointer (some ⟨g, 0, none⟩), .int .i64 k] w fun e w' => LongLen n p k (fold8 M p k) (decide (M.getD p 0 ≠ 0 ∧ 128 ≤ fold8 M p k)) e fun a => Upd w w' g ∧ Rdr w' g b off n c a := by
  have HX : Hid (Rdr w g b off n c p ∧ Rd .u8 w b off M ∧ U8s M ∧ M.length = n) := ⟨hR, hM, uM, hMl⟩
  clear hR hM uM hMl
  obtain ⟨s, hs⟩ : ∃ s : Bool, decide (M.getD p 0 ≠ 0) = s := ⟨_, rfl⟩
  have HS : Hid (decide (M.getD p 0 ≠ 0) = s) := hs
  clear hs
  obtain ⟨D, hD⟩ : ∃ D : Bool, decide (M.getD p 0 ≠ 0 ∧ 128 ≤ fold8 M p k) = D := ⟨_, rfl⟩
  obtain ⟨F, hF⟩ : ∃ F : Int, fold8 M p k = F := ⟨_, rfl⟩
  have HDF : Hid (decide (M.getD p 0 ≠ 0 ∧ 128 ≤ fold8 M p k) = D ∧ fold8 M p k = F) := ⟨hD, hF⟩
  rw [hD, hF]
  clear hD hF
  go_enter Tryz.func135, Tryz.ntmps135
  go_wp2_with fail
  go_loopw [4, 5, 11] (fun nv sv iv wr => ∃ (i : Nat) (t : Int) (z : Bool), nv = .int .i64 t ∧ sv = .bool z ∧ iv = .int .i64 i ∧ i ≤ k ∧ p + i ≤ n ∧ 0 ≤ t ∧ t ≤ 16777217 ∧ fold8 M p i = t ∧ (0 < i → z = s) ∧ Rdr wr g b off n c (p + i) ∧ Upd w wr g) (fun _ _ iv _ => k - (intOf iv).toNat)
  case atStart => exact ⟨0, 0, false, rfl, rfl, rfl, by omega, by omega, by decide, by decide, rfl, by omega, HX.out.1, Upd.refl _ _⟩
  case round =>
    obtain ⟨i, t, z, rfl, rfl, rfl, hi, hpi, t0, t1, ht, hz, hr, hu⟩ := hrel
    have H1 : Hid (Rdr wr g b off n c (p + i) ∧ Upd w wr g ∧ fold8 M p i = t ∧ (0 < i → z = s)) := ⟨hr, hu, ht, hz⟩
    clear hr hu ht hz
    by_cases hlt : i < k
    · have l1 : (i : Int) < (k : Int) := by omega
      by_cases hlt2 : p + i < n
      · obtain ⟨x, hx⟩ : ∃ x, M.getD (p + i) 0 = x := ⟨_, rfl⟩
        have hxu := HX.out.2.2.1.at (p + i)
        rw [hx] at hxu
        obtain ⟨x0, x1⟩ := hxu
        have hF := fold8_at p i hx
        rw [H1.out.2.2.1] at hF
        have e2 := or_i64 8 t x t0 (by omega) x0 (by omega) (by decide)
        rw [show t * 2 ^ 8 = t * 256 from rfl] at e2
        obtain ⟨t2, ht2⟩ : ∃ t2, t * 256 + x = t2 := ⟨_, rfl⟩
        rw [ht2] at e2 hF
        have t20 : 0 ≤ t2 := by omega
        have t21 : t2 ≤ 4294968000 := by omega
        have HF : Hid (fold8 M p (i + 1) = min t2 16777217) := hF
        clear ht2 hF
        have HZ : Hid (i = 0 → (x != 0) = s) := by
          intro h0; subst h0
          rw [← HS.out, show p = p + 0 by omega, hx]
          by_cases hx0 : x = 0 <;> simp [hx0]
        go_wp2_with fail
        refine (next_any g b off n c (p + i) x H1.out.1 hlt2 hn ?_).mono ?_
        · rw [H1.out.2.1.rd hb HX.out.2.1 hbg (p + i) (by have := HX.out.2.2.2; omega), hx]
        rintro e w1 ⟨rfl, hu, hr⟩
        have H2 : Hid (Rdr w1 g b off n c (p + (i + 1)) ∧ Upd w w1 g) := ⟨hr, H1.out.2.1.trans hu⟩
        clear hu hr hx
        by_cases i0 : i = 0
        · subst i0
          have hz := HZ.out rfl
          obtain ⟨y, hy⟩ : ∃ y : Bool, (x != 0) = y := ⟨_, rfl⟩
          rw [hy] at hz
          have HY : Hid (y = s) := hz
          clear hz
          by_cases q1 : t2 ≤ 16777217
          · go_wp2
            go_roundw
            case rel => exact ⟨1, t2, y, rfl, rfl, rfl, by omega, by omega, t20, q1, by rw [HF.out]; omega, fun _ => HY.out, H2.out.1, H2.out.2⟩
            case measure => simp [intOf]; omega
          · go_wp2
            go_roundw
            case rel => exact ⟨1, 16777217, y, rfl, rfl, rfl, by omega, by omega, by decide, by decide, by rw [HF.out]; omega, fun _ => HY.out, H2.out.1, H2.out.2⟩
            case measure => simp [intOf]; omega
        · have i0b : ((i : Int) == 0) = false := by simpa using i0
          have HY : Hid (z = s) := H1.out.2.2.2 (by omega)
          by_cases q1 : t2 ≤ 16777217
          · go_wp2
            go_roundw
            case rel => exact ⟨i + 1, t2, z, rfl, rfl, by go_num, by omega, by omega, t20, q1, by rw [HF.out]; omega, fun _ => HY.out, H2.out.1, H2.out.2⟩
            case measure => simp [intOf]; omega
          · go_wp2
            go_roundw
            case rel => exact ⟨i + 1, 16777217, z, rfl, rfl, by go_num, by omega, by omega, by decide, by decide, by rw [HF.out]; omega, fun _ => HY.out, H2.out.1, H2.out.2⟩
            case measure => simp [intOf]; omega
      · have hpe : p + i = n := by omega
        go_wp2_with fail
        refine (next_end g b off n c (by have := H1.out.1; rw [hpe] at this; exact this)).mono ?_
        rintro e w1 ⟨rfl, hu, hr⟩
        have H2 : Hid (Rdr w1 g b off n c n ∧ Upd w w1 g) := ⟨hr, H1.out.2.1.trans hu⟩
        clear hu hr
        go_wp2
        go_ret3
        exact .inl ⟨by omega, rfl, H2.out.2, H2.out.1⟩
    · obtain rfl : i = k := by omega
      have HD : Hid (D = (z && decide (128 ≤ t)) ∧ F = t) := by
        refine ⟨?_, ?_⟩
        · rw [← HDF.out.1, H1.out.2.2.1, H1.out.2.2.2 hk0, ← HS.out, Bool.decide_and]
        · rw [← HDF.out.2, H1.out.2.2.1]
      by_cases hz : z = true
      · subst hz
        by_cases q1 : 128 ≤ t
        · have HE : Hid (D = true) := by show _ = _; rw [HD.out.1]; simp [q1]
          go_wp2
          go_ret3
          refine .inr ⟨hpi, ?_, H1.out.2.1, H1.out.1⟩
          rw [HE.out, HD.out.2]; rfl
        · have HE : Hid (D = false) := by show _ = _; rw [HD.out.1]; simp; omega
          go_wp2
          go_ret3
          refine .inr ⟨hpi, ?_, H1.out.2.1, H1.out.1⟩
          rw [HE.out, HD.out.2]; rfl
      · have hz' : z = false := by simpa using hz
        subst hz'
        have HE : Hid (D = false) := by show _ = _; rw [HD.out.1]; simp
        go_wp2
        go_ret3
        refine .inr ⟨hpi, ?_, H1.out.2.1, H1.out.1⟩
        rw [HE.out, HD.out.2]; rfl
end Go.Proofs.YtillkhjihggcjaaGreatDoor
/-
  Der: the reader: any length.
-/
namespace Go.Proofs.YtillkhjihggcjaaGreatDoor
open Go.RowKit
theorem upd_drewN (w : World) (n g : Nat) : Upd w (w.drewN n) g := ⟨rfl, rfl, rfl, Nat.le_refl _, fun _ _ _ => rfl⟩
theorem lenS_128 {M : List Int} {p : Nat} {x : Int} (hp : p < M.length) (hx : M.getD p 0 = x) (h : x = 128 ∨ x = 255) : lenS M p = .inl (31, p) := by
  unfold lenS; rw [hx, if_neg (by omega), if_pos h]
theorem lenS_lo {M : List Int} {p : Nat} {x : Int} (hp : p < M.length) (hx : M.getD p 0 = x) (h : x < 128) : lenS M p = if (M.length : Int) < p + 1 + x then .inl (31, p) else .inr (x, (p + 1)) := by
  unfold lenS; rw [hx, if_neg (by omega), if_neg (by omega), if_pos h]
theorem lenS_hi {M : List Int} {p k : Nat} {x F : Int} {D : Bool} (hp : p < M.length) (hx : M.getD p 0 = x) (h : 128 < x) (h2 : x < 255) (hk : x - 128 = k) (hF : fold8 M (p + 1) k = F) (hD : decide (M.getD (p + 1) 0 ≠ 0 ∧ 128 ≤ F) = D) :
    lenS M p = if M.length < p + 1 + k then .inl (2, M.length) else if D = false then .inl (31, p) else if (M.length : Int) - (p + 1 + k : Nat) < F then .inl (31, p) else .inr (F, (p + 1 + k)) := by
  unfold lenS
  rw [hx, if_neg (by omega), if_neg (by omega), if_neg (by omega), show (x - 128).toNat = k by omega, hF]
  split
  · rfl
  by_cases hd : D = false
  · rw [if_pos hd, if_pos]
    rw [hd] at hD
    have : ¬ (M.getD (p + 1) 0 ≠ 0 ∧ 128 ≤ F) := of_decide_eq_false hD
    by_cases h0 : M.getD (p + 1) 0 = 0
    · exact .inr h0
    · refine .inl ?_
      by_cases h1 : 128 ≤ F
      · exact absurd ⟨h0, h1⟩ this
      · omega
  · have hd' : D = true := by simpa using hd
    rw [hd'] at hD
    have := of_decide_eq_true hD
    rw [if_neg hd, if_neg (by omega)]
set_option maxRecDepth 20000 in
set_option maxHeartbeats 4000000 in
theorem lengthS_any {w : World} (g b off n c p : Nat) (M : List Int) (hR : Rdr w g b off n c p) (hM : Rd .u8 w b off M) (uM : U8s M) (hMl : M.length = n) (hn : n ≤ 16777216) (hb : b < w.heap.size) (hbg : b ≠ g) (hp : p ≤ n) :
    Calls Tryz.prog 116 #[.pointer (some ⟨g, 0, none⟩)] w fun e w' => e = .returned (.tuple #[.int .i64 (lenS M p).v, .int .i64 (lenS M p).e]) ∧ Upd w w' g ∧ Rdr w' g b off n c (lenS M p).at := by
  have HX : Hid (Rdr w g b off n c p ∧ Rd .u8 w b off M ∧ U8s M ∧ M.length = n) := ⟨hR, hM, uM, hMl⟩
  have c1 : w.cell? ⟨g, 1, none⟩ = some (.int .i64 p) := hR.cell 1
  obtain ⟨O, hO⟩ : ∃ O, lenS M p = O := ⟨_, rfl⟩
  have HO : Hid (lenS M p = O) := hO
  rw [hO]
  clear hR hM uM hMl hO
  by_cases hlt : p < n
  · obtain ⟨x, hx⟩ : ∃ x, M.getD p 0 = x := ⟨_, rfl⟩
    have hxu := HX.out.2.2.1.at p
    rw [hx] at hxu
    obtain ⟨x0, x1⟩ := hxu
    have HXx : Hid (M.getD p 0 = x) := hx
    have HN : Hid (w.cell? ⟨b, off + p, none⟩ = some (.int .u8 x)) := by
      show _ = _
      rw [HX.out.2.1 p (by have := HX.out.2.2.2; omega), hx]
    clear hx
    obtain ⟨p1, hp1⟩ : ∃ p1, p + 1 = p1 := ⟨_, rfl⟩
    have HP : Hid (p + 1 = p1) := hp1
    have l1 : (p1 : Int) = (p : Int) + 1 := by omega
    have l2 : (p1 : Int) ≤ (n : Int) := by omega
    clear hp1
    by_cases q1 : x = 128 ∨ x = 255
    · have HE : Hid (O = .inl (31, p)) := by show _ = _; rw [← HO.out]; exact lenS_128 (by have := HX.out.2.2.2; omega) HXx.out q1
      rcases q1 with rfl | rfl
      all_goals
        go_enter Tryz.func116, Tryz.ntmps116
        go_wp2_with fail
        refine (next_any g b off n c p _ HX.out.1 hlt hn HN.out).mono ?_
        rintro e w1 ⟨rfl, hu, hr⟩
        have H1 : Hid (Upd w w1 g ∧ Rdr w1 g b off n c (p + 1)) := ⟨hu, hr⟩
        clear hu hr c1
        go_wp2_with (go_at_call 134; refine (fault_any g b off n c (p + 1) p 31 H1.out.2).mono ?_; rintro e w2 ⟨rfl, hu2, hr2⟩)
        go_ret2
        rw [HE.out]
        exact ⟨rfl, H1.out.1.trans hu2, hr2⟩
    have n1 : (x != 128) = true := by simp; omega
    have n2 : (x != 255) = true := by simp; omega
    by_cases q2 : x < 128
    · have HE : Hid (O = if (n : Int) < p + 1 + x then .inl (31, p) else .inr (x, p1)) := by
        show _ = _
        have h1 := lenS_lo (by have := HX.out.2.2.2; omega) HXx.out q2
        rw [HO.out, HX.out.2.2.2, HP.out] at h1
        exact h1
      have n3 : ¬ 128 < x := by omega
      go_enter Tryz.func116, Tryz.ntmps116
      go_wp2_with fail
      refine (next_any g b off n c p x HX.out.1 hlt hn HN.out).mono ?_
      rintro e w1 ⟨rfl, hu, hr⟩
      rw [HP.out] at hr
      have H1 : Hid (Upd w w1 g ∧ Rdr w1 g b off n c p1) := ⟨hu, hr⟩
      have d0 : w1.cell? ⟨g, 0, none⟩ = some (.slice (some ⟨b, off, none⟩) n c) := hr.cell 0
      have d1 : w1.cell? ⟨g, 1, none⟩ = some (.int .i64 (p1 : Int)) := hr.cell 1
      clear hu hr c1
      go_upto_region 11 with (fail)
      by_cases q3 : (n : Int) - (p1 : Int) < x
      · go_quiet (fail)
        go_wp2_with (go_at_call 134; refine (fault_any g b off n c p1 p 31 (H1.out.2.drewN _)).mono ?_; rintro e w2 ⟨rfl, hu2, hr2⟩)
        go_ret2
        rw [HE.out, if_pos (by omega)]
        exact ⟨rfl, (H1.out.1.trans (upd_drewN _ _ _)).trans hu2, hr2⟩
      · go_quiet (fail)
        go_wp2
        go_ret2
        rw [HE.out, if_neg (by omega)]
        exact ⟨rfl, H1.out.1.trans ⟨rfl, rfl, rfl, Nat.le_refl _, fun _ _ _ => rfl⟩, H1.out.2⟩
    · obtain ⟨k, hk⟩ : ∃ k : Nat, x - 128 = k := ⟨(x - 128).toNat, by omega⟩
      have k1 : 0 < k := by omega
      have k2 : k ≤ 127 := by omega
      have k3 : 128 < x := by omega
      have k4 : x < 255 := by omega
      obtain ⟨F, hF⟩ : ∃ F, fold8 M p1 k = F := ⟨_, rfl⟩
      obtain ⟨D, hD⟩ : ∃ D : Bool, decide (M.getD p1 0 ≠ 0 ∧ 128 ≤ F) = D := ⟨_, rfl⟩
      have HE : Hid (O = if n < p1 + k then .inl (2, n) else if D = false then .inl (31, p) else if (n : Int) - (p1 + k : Nat) < F then .inl (31, p) else .inr (F, (p1 + k))) := by
        show _ = _
        have h1 := lenS_hi (F := F) (D := D) (by have := HX.out.2.2.2; omega) HXx.out k3 k4 hk (by rw [HP.out]; exact hF) (by rw [HP.out]; exact hD)
        rw [HO.out, HX.out.2.2.2, HP.out] at h1
        exact h1
      have hFb := fold8_bd HX.out.2.2.1 p1 k
      rw [hF] at hFb
      obtain ⟨F0, F1⟩ := hFb
      have HFD : Hid (fold8 M p1 k = F ∧ decide (M.getD p1 0 ≠ 0 ∧ 128 ≤ F) = D) := ⟨hF, hD⟩
      clear hF hD
      go_enter Tryz.func116, Tryz.ntmps116
      go_wp2_with fail
      refine (next_any g b off n c p x HX.out.1 hlt hn HN.out).mono ?_
      rintro e w1 ⟨rfl, hu, hr⟩
      rw [HP.out] at hr
      have H1 : Hid (Upd w w1 g ∧ Rdr w1 g b off n c p1) := ⟨hu, hr⟩
      clear hu hr c1
      go_wp2_with fail
      refine (longLength_any g b off n c p1 k M H1.out.2 (H1.out.1.rd hb HX.out.2.1 hbg) HX.out.2.2.1 HX.out.2.2.2 hn (Nat.lt_of_lt_of_le hb H1.out.1.size) hbg (by omega) k1 k2).mono ?_
      rintro e w2 hL
      rw [HFD.out.1, HFD.out.2] at hL
      rcases hL with ⟨hs, rfl, hu, hr⟩ | ⟨hs, rfl, hu, hr⟩
      · have H2 : Hid (Upd w w2 g ∧ Rdr w2 g b off n c n) := ⟨H1.out.1.trans hu, hr⟩
        clear hu hr
        go_wp2
        go_ret2
        rw [HE.out, if_pos hs]
        exact ⟨rfl, H2.out.1, H2.out.2⟩
      · obtain ⟨p2, hp2⟩ : ∃ p2, p1 + k = p2 := ⟨_, rfl⟩
        rw [hp2] at hr hs
        have H2 : Hid (Upd w w2 g ∧ Rdr w2 g b off n c p2 ∧ p1 + k = p2) := ⟨H1.out.1.trans hu, hr, hp2⟩
        have d0 : w2.cell? ⟨g, 0, none⟩ = some (.slice (some ⟨b, off, none⟩) n c) := hr.cell 0
        have d1 : w2.cell? ⟨g, 1, none⟩ = some (.int .i64 (p2 : Int)) := hr.cell 1
        clear hu hr hp2
        by_cases hd : D = true
        · subst hd
          have hsI : (p2 : Int) ≤ (n : Int) := by omega
          go_upto_region 11 with (fail)
          by_cases q3 : (n : Int) - (p2 : Int) < F
          · go_quiet (fail)
            go_wp2_with (go_at_call 134; refine (fault_any g b off n c p2 p 31 (H2.out.2.1.drewN _)).mono ?_; rintro e w3 ⟨rfl, hu2, hr2⟩)
            go_ret2
            rw [HE.out, H2.out.2.2, if_neg (by omega), if_neg (by simp), if_pos (by omega)]
            exact ⟨rfl, (H2.out.1.trans (upd_drewN _ _ _)).trans hu2, hr2⟩
          · go_quiet (fail)
            go_wp2
            go_ret2
            rw [HE.out, H2.out.2.2, if_neg (by omega), if_neg (by simp), if_neg (by omega)]
            exact ⟨rfl, H2.out.1.trans ⟨rfl, rfl, rfl, Nat.le_refl _, fun _ _ _ => rfl⟩, H2.out.2.1⟩
        · have hd' : D = false := by simpa using hd
          subst hd'
          go_wp2_with (go_at_call 134; refine (fault_any g b off n c p2 p 31 H2.out.2.1).mono ?_; rintro e w3 ⟨rfl, hu2, hr2⟩)
          go_ret2
          rw [HE.out, H2.out.2.2, if_neg (by omega), if_pos (by simp)]
          exact ⟨rfl, H2.out.1.trans hu2, hr2⟩
  · obtain rfl : p = n := by omega
    go_enter Tryz.func116, Tryz.ntmps116
    go_wp2_with fail
    refine (next_end g b off p c HX.out.1).mono ?_
    rintro e w1 ⟨rfl, hu, hr⟩
    have H1 : Hid (Upd w w1 g ∧ Rdr w1 g b off p c p) := ⟨hu, hr⟩
    clear hu hr c1
    go_wp2
    go_ret2
    have h1 := HO.out
    unfold lenS at h1
    rw [if_pos (by have := HX.out.2.2.2; omega), HX.out.2.2.2] at h1
    subst h1
    exact ⟨rfl, H1.out.1, H1.out.2⟩
end Go.Proofs.YtillkhjihggcjaaGreatDoor
/-
  Der: the reader: any head.
-/
namespace Go.Proofs.YtillkhjihggcjaaGreatDoor
open Go.RowKit
theorem and_31u (x : Int) (h : U8 x) : bits .and .u8 x 31 = x % 32 := by
  obtain ⟨h0, h1⟩ := h
  obtain ⟨k, rfl⟩ := Int.eq_ofNat_of_zero_le h0
  have : ∀ y : Fin 256, bits .and .u8 ((y : Nat) : Int) 31 = ((y : Nat) : Int) % 32 := by decide +kernel
  exact this ⟨k, by omega⟩
theorem and_32u (x : Int) (h : U8 x) : (bits .and .u8 x 32 != 0) = decide (x / 32 % 2 = 1) := by
  obtain ⟨h0, h1⟩ := h
  obtain ⟨k, rfl⟩ := Int.eq_ofNat_of_zero_le h0
  have : ∀ y : Fin 256, (bits .and .u8 ((y : Nat) : Int) 32 != 0) = decide (((y : Nat) : Int) / 32 % 2 = 1) := by decide +kernel
  exact this ⟨k, by omega⟩
set_option maxRecDepth 20000 in
set_option maxHeartbeats 4000000 in
theorem headS_any {w : World} (g b off n c p : Nat) (x : Int) (M : List Int) (hR : Rdr w g b off n c p) (hM : Rd .u8 w b off M) (uM : U8s M) (hMl : M.length = n) (hn : n ≤ 16777216) (hb : b < w.heap.size) (hbg : b ≠ g) (hp : p < n) (hx : M.getD p 0 = x) :
    Calls Tryz.prog 115 #[.pointer (some ⟨g, 0, none⟩)] w fun e w' => e = .returned (.tuple #[.agg #[.int .i64 (x / 64), .int .i64 (tagS M p).v, .bool (decide (x / 32 % 2 = 1)), .slice none 0 0, .slice none 0 0], .int .i64 (tagS M p).e]) ∧ Upd w w' g ∧ Rdr w' g b off n c (tagS M p).at := by
  obtain ⟨O, hO⟩ : ∃ O, tagS M p = O := ⟨_, rfl⟩
  have hu8 := uM.at p
  rw [hx] at hu8
  have HX : Hid (Rdr w g b off n c p ∧ Rd .u8 w b off M ∧ U8s M ∧ M.length = n ∧ w.cell? ⟨b, off + p, none⟩ = some (.int .u8 x)) := ⟨hR, hM, uM, hMl, by rw [hM p (by omega), hx]⟩
  have HO : Hid (tagS M p = O ∧ M.getD p 0 = x) := ⟨hO, hx⟩
  obtain ⟨y, hy⟩ : ∃ y, bits .and .u8 x 32 = y := ⟨_, rfl⟩
  have e31 := and_31u x hu8
  obtain ⟨cl, hcl⟩ : ∃ cl, x / 64 = cl := ⟨_, rfl⟩
  obtain ⟨tg, htg⟩ : ∃ tg, x % 32 = tg := ⟨_, rfl⟩
  rw [htg] at e31
  have HC : Hid ((y != 0) = decide (x / 32 % 2 = 1)) := by show _ = _; rw [← hy]; exact and_32u x hu8
  rw [hO, ← HC.out, hcl]
  have HN : Hid (x / 64 = cl ∧ x % 32 = tg ∧ U8 x) := ⟨hcl, htg, hu8⟩
  have c0 : 0 ≤ cl := by have := hu8.1; have := hu8.2; omega
  have c3 : cl ≤ 3 := by have := hu8.1; have := hu8.2; omega
  have t0 : 0 ≤ tg := by omega
  have t1 : tg ≤ 31 := by omega
  obtain ⟨p1, hp1⟩ : ∃ p1, p + 1 = p1 := ⟨_, rfl⟩
  have HP : Hid (p + 1 = p1) := hp1
  have l1 : (p1 : Int) - 1 = (p : Int) := by omega
  clear hR hM uM hMl hO hx hp1 htg hu8
  go_enter Tryz.func115, Tryz.ntmps115
  go_wp2_with fail
  refine (next_any g b off n c p x (HX.out.1.alloc _) hp hn ?_).mono ?_
  · rw [← HX.out.2.2.2.2]; exact (al1 _).cell (p := ⟨b, off + p, none⟩) hb
  rintro e w1 ⟨rfl, hu, hr⟩
  rw [HP.out] at hr
  have hgl := HX.out.1.lt
  have hB1 : Blk 24 w1 w.heap.size [.int .i64 0, .int .i64 0, .bool false, .slice none 0 0, .slice none 0 0] := hu.blk (Blk.new _ w _) (by omega)
  have d0 : w1.cell? ⟨w.heap.size, 0, none⟩ = some (.int .i64 0) := hB1.cell 0
  have d1 : w1.cell? ⟨w.heap.size, 1, none⟩ = some (.int .i64 0) := hB1.cell 1
  have d2 : w1.cell? ⟨w.heap.size, 2, none⟩ = some (.bool false) := hB1.cell 2
  have f0 := hB1.frozen 0
  have f1 := hB1.frozen 1
  have f2 := hB1.frozen 2
  have H1 : Hid (Upd (w.alloc (.cells #[.int .i64 0, .int .i64 0, .bool false, .slice none 0 0, .slice none 0 0] 24)) w1 g ∧ Rdr w1 g b off n c p1 ∧ Blk 24 w1 w.heap.size [.int .i64 0, .int .i64 0, .bool false, .slice none 0 0, .slice none 0 0]) := ⟨hu, hr, hB1⟩
  clear hu hr hB1
  go_upto_region 5 with (fail)
  refine wp_gen (fun W => Upd w1 W w.heap.size ∧ Blk 24 W w.heap.size [.int .i64 cl, .int .i64 tg, .bool (y != 0), .slice none 0 0, .slice none 0 0]) ⟨((Upd.set _ _ _ _).trans (Upd.set _ _ _ _)).trans (Upd.set _ _ _ _), (((H1.out.2.2.set 0 (.int .i64 cl)).set 2 (.bool (y != 0))).set 1 (.int .i64 tg))⟩ ?_
  rintro w2 ⟨hu2, hb2⟩
  clear d0 d1 d2 f0 f1 f2
  have H2 : Hid (Upd w w2 g ∧ Rdr w2 g b off n c p1 ∧ Blk 24 w2 w.heap.size [.int .i64 cl, .int .i64 tg, .bool (y != 0), .slice none 0 0, .slice none 0 0] ∧ Rd .u8 w2 b off M) := by
    have h1 := H1.out.1.old hu2
    exact ⟨h1, hu2.blk H1.out.2.1 (by omega), hb2, h1.rd hb HX.out.2.1 hbg⟩
  clear hu2 hb2
  have d0 : w2.cell? ⟨w.heap.size, 0, none⟩ = some (.int .i64 cl) := H2.out.2.2.1.cell 0
  have d1 : w2.cell? ⟨w.heap.size, 1, none⟩ = some (.int .i64 tg) := H2.out.2.2.1.cell 1
  have d2 : w2.cell? ⟨w.heap.size, 2, none⟩ = some (.bool (y != 0)) := H2.out.2.2.1.cell 2
  have d3 : w2.cell? ⟨w.heap.size, 3, none⟩ = some (.slice none 0 0) := H2.out.2.2.1.cell 3
  have d4 : w2.cell? ⟨w.heap.size, 4, none⟩ = some (.slice none 0 0) := H2.out.2.2.1.cell 4
  have f0 := H2.out.2.2.1.frozen 0
  have f1 := H2.out.2.2.1.frozen 1
  have f2 := H2.out.2.2.1.frozen 2
  have f3 := H2.out.2.2.1.frozen 3
  have f4 := H2.out.2.2.1.frozen 4
  by_cases q1 : tg = 31
  · subst q1
    go_wp2_with fail
    refine (longTag_any g b off n c p1 M H2.out.2.1 H2.out.2.2.2 HX.out.2.2.1 HX.out.2.2.2.1 hn (Nat.lt_of_lt_of_le hb H2.out.1.size) hbg (by have := HP.out; omega)).mono ?_
    have HE : Hid (lng M p1 0 = O) := by
      show _ = _
      rw [← HO.out.1]; unfold tagS; rw [HO.out.2, if_pos HN.out.2.1, HP.out]
    rw [HE.out]
    rintro e w3 ⟨rfl, hu3, hr3⟩
    obtain ⟨V, hV⟩ : ∃ V, O.v = V := ⟨_, rfl⟩
    obtain ⟨N, hN⟩ : ∃ N, O.e = N := ⟨_, rfl⟩
    rw [hV, hN]
    clear d0 d1 d2 d3 d4 f0 f1 f2 f3 f4
    have hB3 := hu3.blk H2.out.2.2.1 (by omega)
    have H3 : Hid (Upd w w3 g ∧ Rdr w3 g b off n c O.at ∧ Blk 24 w3 w.heap.size [.int .i64 cl, .int .i64 31, .bool (y != 0), .slice none 0 0, .slice none 0 0]) := ⟨H2.out.1.trans hu3, hr3, hB3⟩
    have d0 : w3.cell? ⟨w.heap.size, 0, none⟩ = some (.int .i64 cl) := hB3.cell 0
    have d1 : w3.cell? ⟨w.heap.size, 1, none⟩ = some (.int .i64 31) := hB3.cell 1
    have d2 : w3.cell? ⟨w.heap.size, 2, none⟩ = some (.bool (y != 0)) := hB3.cell 2
    have d3 : w3.cell? ⟨w.heap.size, 3, none⟩ = some (.slice none 0 0) := hB3.cell 3
    have d4 : w3.cell? ⟨w.heap.size, 4, none⟩ = some (.slice none 0 0) := hB3.cell 4
    have f0 := hB3.frozen 0
    have f1 := hB3.frozen 1
    have f2 := hB3.frozen 2
    have f3 := hB3.frozen 3
    have f4 := hB3.frozen 4
    clear hu3 hr3 hB3
    go_wp2
    have hB := (((((H3.out.2.2.set 1 (.int .i64 V)).set 0 (.int .i64 cl)).set 1 (.int .i64 V)).set 2 (.bool (y != 0))).set 3 (.slice none 0 0)).set 4 (.slice none 0 0)
    have hU := (((((Upd.set w3 w.heap.size 1 (.int .i64 V)).trans (Upd.set _ _ 0 (.int .i64 cl))).trans (Upd.set _ _ 1 (.int .i64 V))).trans (Upd.set _ _ 2 (.bool (y != 0)))).trans (Upd.set _ _ 3 (.slice none 0 0))).trans (Upd.set _ _ 4 (.slice none 0 0))
    refine bodyPost_ret (results_blk2 rfl rfl hB Tryz.underlying24 rfl Tryz.sizeT rfl) rfl ⟨by rw [hV, hN]; rfl, H3.out.1.more hU (Nat.le_refl _), ?_⟩
    exact hU.blk H3.out.2.1 (by omega)
  have q1b : (tg == 31) = false := by simpa using q1
  obtain ⟨K, hK⟩ : ∃ K, headOk cl tg = K := ⟨_, rfl⟩
  by_cases q2 : K = true
  · subst q2
    have HE : Hid (O = .inr (tg, p1)) := by
      show _ = _
      rw [← HO.out.1]; unfold tagS
      rw [HO.out.2, HN.out.2.1, if_neg q1, if_neg, HP.out]
      unfold headOk at hK
      have := of_decide_eq_true hK
      have := HN.out
      unfold U8 at this
      omega
    go_wp2_with (go_at_call 133; refine (isHead_any cl tg).mono ?_; rw [hK]; rintro e w' ⟨rfl, rfl⟩)
    have hB := ((((H2.out.2.2.1.set 0 (.int .i64 cl)).set 1 (.int .i64 tg)).set 2 (.bool (y != 0))).set 3 (.slice none 0 0)).set 4 (.slice none 0 0)
    have hU := ((((Upd.set w2 w.heap.size 0 (.int .i64 cl)).trans (Upd.set _ _ 1 (.int .i64 tg))).trans (Upd.set _ _ 2 (.bool (y != 0)))).trans (Upd.set _ _ 3 (.slice none 0 0))).trans (Upd.set _ _ 4 (.slice none 0 0))
    rw [HE.out]
    refine bodyPost_ret (results_blk2 rfl rfl hB Tryz.underlying24 rfl Tryz.sizeT rfl) rfl ⟨rfl, H2.out.1.more hU (Nat.le_refl _), ?_⟩
    exact hU.blk H2.out.2.1 (by omega)
  · have q2' : K = false := by simpa using q2
    subst q2'
    have h0 : tg = 0 ∧ x < 64 := by
      unfold headOk at hK
      have := of_decide_eq_false hK
      have := HN.out
      unfold U8 at this
      omega
    have HE : Hid (O = .inl (30, p)) := by
      show _ = _
      rw [← HO.out.1]; unfold tagS
      rw [HO.out.2, HN.out.2.1, if_neg q1, if_pos h0]
    obtain ⟨rfl, _⟩ := h0
    have r1 : w2.cell? ⟨g, 1, none⟩ = some (.int .i64 (p1 : Int)) := H2.out.2.1.cell 1
    go_wp2_with (first
      | (go_at_call 133; refine (isHead_any cl 0).mono ?_; rw [hK]; rintro e w' ⟨rfl, rfl⟩))
    refine (fault_any g b off n c p1 p 30 H2.out.2.1).mono ?_
    rintro e w3 ⟨rfl, hu3, hr3⟩
    clear d0 d1 d2 d3 d4 f0 f1 f2 f3 f4
    have hB3 := hu3.blk H2.out.2.2.1 (by omega)
    have H3 : Hid (Upd w w3 g ∧ Rdr w3 g b off n c p ∧ Blk 24 w3 w.heap.size [.int .i64 cl, .int .i64 0, .bool (y != 0), .slice none 0 0, .slice none 0 0]) := ⟨H2.out.1.trans hu3, hr3, hB3⟩
    have d0 : w3.cell? ⟨w.heap.size, 0, none⟩ = some (.int .i64 cl) := hB3.cell 0
    have d1 : w3.cell? ⟨w.heap.size, 1, none⟩ = some (.int .i64 0) := hB3.cell 1
    have d2 : w3.cell? ⟨w.heap.size, 2, none⟩ = some (.bool (y != 0)) := hB3.cell 2
    have d3 : w3.cell? ⟨w.heap.size, 3, none⟩ = some (.slice none 0 0) := hB3.cell 3
    have d4 : w3.cell? ⟨w.heap.size, 4, none⟩ = some (.slice none 0 0) := hB3.cell 4
    have f0 := hB3.frozen 0
    have f1 := hB3.frozen 1
    have f2 := hB3.frozen 2
    have f3 := hB3.frozen 3
    have f4 := hB3.frozen 4
    clear hu3 hr3 hB3
    go_wp2
    have hB := ((((H3.out.2.2.set 0 (.int .i64 cl)).set 1 (.int .i64 0)).set 2 (.bool (y != 0))).set 3 (.slice none 0 0)).set 4 (.slice none 0 0)
    have hU := ((((Upd.set w3 w.heap.size 0 (.int .i64 cl)).trans (Upd.set _ _ 1 (.int .i64 0))).trans (Upd.set _ _ 2 (.bool (y != 0)))).trans (Upd.set _ _ 3 (.slice none 0 0))).trans (Upd.set _ _ 4 (.slice none 0 0))
    rw [HE.out]
    refine bodyPost_ret (results_blk2 rfl rfl hB Tryz.underlying24 rfl Tryz.sizeT rfl) rfl ⟨rfl, H3.out.1.more hU (Nat.le_refl _), ?_⟩
    exact hU.blk H3.out.2.1 (by omega)
end Go.Proofs.YtillkhjihggcjaaGreatDoor
