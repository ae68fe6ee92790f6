/-
  Der: any bytes as a number that is not below 0.
-/
import Derived.Deep.RegionHeld3
import Derived.Test.YtillkhjihggcjaaGreatDoorK20
namespace Go.Proofs.YtillkhjihggcjaaGreatDoor
open Go.RowKit
def uintS (X : List Int) : List Int × Int := if intOk X = false then ([], 6) else if 128 ≤ X.getD 0 0 then ([], 40) else if X.getD 0 0 = 0 then fromS (X.drop 1) else fromS X
def UAns (X : List Int) (w w' : World) (e : Ending) : Prop := (∃ r, e = .returned (.tuple #[r, .int .i64 (uintS X).2]) ∧ Sl .u32 w' r (uintS X).1) ∧ Below w.heap.size w w'
theorem UAns.nil {X : List Int} {w : World} {n : Int} (h : uintS X = ([], n)) : UAns X w w (.returned (.tuple #[.slice none 0 0, .int .i64 n])) := by
  unfold UAns; rw [h]; exact ⟨⟨_, rfl, ⟨none, 0, rfl, Nat.le_refl _, .inl rfl⟩⟩, Below.refl _ _⟩
set_option maxRecDepth 20000 in
set_option maxHeartbeats 4000000 in
theorem Uint_any {w : World} (v : Value) (X : List Int) (hX : Sl .u8 w v X) (uX : U8s X) (hl : X.length ≤ 16384) :
    Calls Tryz.prog 99 #[v] w fun e w' => UAns X w w' e := by
  have HI : Hid (Calls Tryz.prog 117 #[v] w fun e w' => e = .returned (.bool (intOk X)) ∧ w = w') := isInt_any v X hX uX hl
  have HX : Hid (Sl .u8 w v X ∧ U8s X) := ⟨hX, uX⟩
  obtain ⟨a, c, rfl, hc, hx⟩ := hX
  obtain ⟨n, hn⟩ : ∃ n, X.length = n := ⟨_, rfl⟩
  rw [hn] at HI HX hc ⊢
  cases hok : intOk X with
  | false =>
    have HV : Hid (uintS X = ([], 6)) := by unfold uintS; rw [if_pos hok]; rfl
    rw [hok] at HI
    clear hx hok
    go_enter Tryz.func99, Tryz.ntmps99
    go_wp2_with fail
    refine HI.out.mono ?_
    rintro e w1 ⟨rfl, rfl⟩
    go_wp2
    go_ret2
    exact UAns.nil HV.out
  | true =>
    have hne := intOk_ne hok
    rw [hok] at HI
    rcases hx with hx | ⟨b, off, rfl, hb, hr⟩
    · rw [hx] at hne; simp at hne
    rw [hn] at hne
    have hneI : (1 : Int) ≤ (n : Int) := by omega
    have hneI2 : (0 : Int) < (n : Int) := by omega
    have hcI : (1 : Int) ≤ (c : Int) := by omega
    obtain ⟨x, hx⟩ : ∃ x, X.getD 0 0 = x := ⟨_, rfl⟩
    have cx : w.cell? ⟨b, off, none⟩ = some (.int .u8 x) := by have := hr 0 (by omega); rw [hx] at this; exact this
    have ux := uX.at 0
    rw [hx] at ux
    obtain ⟨x0, x1⟩ := ux
    by_cases h128 : 128 ≤ x
    · have HV : Hid (uintS X = ([], 40)) := by unfold uintS; rw [if_neg (by rw [hok]; simp), if_pos (by rw [hx]; exact h128)]; rfl
      clear hr hok hx
      go_enter Tryz.func99, Tryz.ntmps99
      go_wp2_with fail
      refine HI.out.mono ?_
      rintro e w1 ⟨rfl, rfl⟩
      go_wp2
      go_ret2
      exact UAns.nil HV.out
    by_cases h0 : x = 0
    · have HV : Hid (uintS X = fromS (X.drop 1)) := by unfold uintS; rw [if_neg (by rw [hok]; simp), if_neg (by rw [hx]; exact h128), if_pos (by rw [hx]; exact h0)]; rfl
      obtain ⟨ba, hba⟩ : ∃ ba : Option Addr, (if c = 1 then some ⟨b, off, none⟩ else some ⟨b, off + 1, none⟩) = ba := ⟨_, rfl⟩
      obtain ⟨n2, hn2⟩ : ∃ n2, n - 1 = n2 := ⟨_, rfl⟩
      obtain ⟨c2, hc2⟩ : ∃ c2, c - 1 = c2 := ⟨_, rfl⟩
      have HS : Hid (Sl .u8 w (.slice ba n2 c2) (X.drop 1)) := by
        refine ⟨ba, c2, by rw [List.length_drop, hn, hn2], by rw [List.length_drop, hn]; omega, ?_⟩
        by_cases hn1 : n = 1
        · left; exact List.eq_nil_of_length_eq_zero (by rw [List.length_drop]; omega)
        · right
          refine ⟨b, off + 1, by rw [← hba, if_neg (by omega)], hb, fun i hi => ?_⟩
          rw [List.length_drop] at hi
          have := hr (1 + i) (by omega)
          rw [show off + (1 + i) = off + 1 + i by omega] at this
          rw [this, List.getD_eq_getElem?_getD, List.getD_eq_getElem?_getD, List.getElem?_drop]
      obtain ⟨Z, hZ⟩ : ∃ Z, X.drop 1 = Z := ⟨_, rfl⟩
      have HZ : Hid (U8s Z) := fun y hy => HX.out.2 y (by rw [← hZ] at hy; exact List.mem_of_mem_drop hy)
      rw [hZ] at HS HV
      subst h0
      clear hr hok hx h128 hZ
      go_enter Tryz.func99, Tryz.ntmps99
      go_wp2_with fail
      refine HI.out.mono ?_
      rintro e w1 ⟨rfl, rfl⟩
      go_wp2_with fail
      refine (FromBytes_any Z _ w HS.out HZ.out).mono ?_
      rintro e w2 ⟨⟨r, rfl, hs⟩, hb2⟩
      have H2 : Hid (Sl .u32 w2 r (fromS Z).1 ∧ Below w.heap.size w w2) := ⟨hs.sl, hb2⟩
      clear hs hb2
      go_wp2
      go_ret2
      refine ⟨⟨r, ?_, ?_⟩, H2.out.2⟩
      · rw [HV.out]; rfl
      · rw [HV.out]; exact H2.out.1
    · have HV : Hid (uintS X = fromS X) := by unfold uintS; rw [if_neg (by rw [hok]; simp), if_neg (by rw [hx]; exact h128), if_neg (by rw [hx]; exact h0)]; rfl
      have b0 : (x == 0) = false := by simpa using h0
      clear hr hok hx h0
      go_enter Tryz.func99, Tryz.ntmps99
      go_wp2_with fail
      refine HI.out.mono ?_
      rintro e w1 ⟨rfl, rfl⟩
      go_wp2_with fail
      refine (FromBytes_any X _ w HX.out.1 HX.out.2).mono ?_
      rintro e w2 ⟨⟨r, rfl, hs⟩, hb2⟩
      have H2 : Hid (Sl .u32 w2 r (fromS X).1 ∧ Below w.heap.size w w2) := ⟨hs.sl, hb2⟩
      clear hs hb2
      go_wp2
      go_ret2
      refine ⟨⟨r, ?_, ?_⟩, H2.out.2⟩
      · rw [HV.out]; rfl
      · rw [HV.out]; exact H2.out.1
set_option maxRecDepth 20000 in
set_option maxHeartbeats 4000000 in
theorem RUint_any {w : World} (v : Value) (X : List Int) (hX : Sl .u8 w v X) (uX : U8s X) (hl : X.length ≤ 16384) :
    Calls Tryz.prog 34 #[v] w fun e w' => UAns X w w' e := by
  have HI : Hid (Calls Tryz.prog 60 #[v] w fun e w' => e = .returned (.bool (intOk X)) ∧ w = w') := whole_any v X hX uX hl
  have HX : Hid (Sl .u8 w v X ∧ U8s X) := ⟨hX, uX⟩
  obtain ⟨a, c, rfl, hc, hx⟩ := hX
  obtain ⟨n, hn⟩ : ∃ n, X.length = n := ⟨_, rfl⟩
  rw [hn] at HI HX hc ⊢
  cases hok : intOk X with
  | false =>
    have HV : Hid (uintS X = ([], 6)) := by unfold uintS; rw [if_pos hok]; rfl
    rw [hok] at HI
    clear hx hok
    go_enter Tryz.func34, Tryz.ntmps34
    go_wp2_with fail
    refine HI.out.mono ?_
    rintro e w1 ⟨rfl, rfl⟩
    go_wp2
    go_ret2
    exact UAns.nil HV.out
  | true =>
    have hne := intOk_ne hok
    rw [hok] at HI
    rcases hx with hx | ⟨b, off, rfl, hb, hr⟩
    · rw [hx] at hne; simp at hne
    rw [hn] at hne
    have hneI : (1 : Int) ≤ (n : Int) := by omega
    have hneI2 : (0 : Int) < (n : Int) := by omega
    have hcI : (1 : Int) ≤ (c : Int) := by omega
    obtain ⟨x, hx⟩ : ∃ x, X.getD 0 0 = x := ⟨_, rfl⟩
    have cx : w.cell? ⟨b, off, none⟩ = some (.int .u8 x) := by have := hr 0 (by omega); rw [hx] at this; exact this
    have ux := uX.at 0
    rw [hx] at ux
    obtain ⟨x0, x1⟩ := ux
    by_cases h128 : 128 ≤ x
    · have HV : Hid (uintS X = ([], 40)) := by unfold uintS; rw [if_neg (by rw [hok]; simp), if_pos (by rw [hx]; exact h128)]; rfl
      clear hr hok hx
      go_enter Tryz.func34, Tryz.ntmps34
      go_wp2_with fail
      refine HI.out.mono ?_
      rintro e w1 ⟨rfl, rfl⟩
      go_wp2
      go_ret2
      exact UAns.nil HV.out
    by_cases h0 : x = 0
    · have HV : Hid (uintS X = fromS (X.drop 1)) := by unfold uintS; rw [if_neg (by rw [hok]; simp), if_neg (by rw [hx]; exact h128), if_pos (by rw [hx]; exact h0)]; rfl
      obtain ⟨ba, hba⟩ : ∃ ba : Option Addr, (if c = 1 then some ⟨b, off, none⟩ else some ⟨b, off + 1, none⟩) = ba := ⟨_, rfl⟩
      obtain ⟨n2, hn2⟩ : ∃ n2, n - 1 = n2 := ⟨_, rfl⟩
      obtain ⟨c2, hc2⟩ : ∃ c2, c - 1 = c2 := ⟨_, rfl⟩
      have HS : Hid (Sl .u8 w (.slice ba n2 c2) (X.drop 1)) := by
        refine ⟨ba, c2, by rw [List.length_drop, hn, hn2], by rw [List.length_drop, hn]; omega, ?_⟩
        by_cases hn1 : n = 1
        · left; exact List.eq_nil_of_length_eq_zero (by rw [List.length_drop]; omega)
        · right
          refine ⟨b, off + 1, by rw [← hba, if_neg (by omega)], hb, fun i hi => ?_⟩
          rw [List.length_drop] at hi
          have := hr (1 + i) (by omega)
          rw [show off + (1 + i) = off + 1 + i by omega] at this
          rw [this, List.getD_eq_getElem?_getD, List.getD_eq_getElem?_getD, List.getElem?_drop]
      obtain ⟨Z, hZ⟩ : ∃ Z, X.drop 1 = Z := ⟨_, rfl⟩
      have HZ : Hid (U8s Z) := fun y hy => HX.out.2 y (by rw [← hZ] at hy; exact List.mem_of_mem_drop hy)
      rw [hZ] at HS HV
      subst h0
      clear hr hok hx h128 hZ
      go_enter Tryz.func34, Tryz.ntmps34
      go_wp2_with fail
      refine HI.out.mono ?_
      rintro e w1 ⟨rfl, rfl⟩
      go_wp2_with fail
      refine (RFromBytes_any Z _ w HS.out HZ.out).mono ?_
      rintro e w2 ⟨⟨r, rfl, hs⟩, hb2⟩
      have H2 : Hid (Sl .u32 w2 r (fromS Z).1 ∧ Below w.heap.size w w2) := ⟨hs, hb2⟩
      clear hs hb2
      go_wp2
      go_ret2
      refine ⟨⟨r, ?_, ?_⟩, H2.out.2⟩
      · rw [HV.out]; rfl
      · rw [HV.out]; exact H2.out.1
    · have HV : Hid (uintS X = fromS X) := by unfold uintS; rw [if_neg (by rw [hok]; simp), if_neg (by rw [hx]; exact h128), if_neg (by rw [hx]; exact h0)]; rfl
      have b0 : (x == 0) = false := by simpa using h0
      clear hr hok hx h0
      go_enter Tryz.func34, Tryz.ntmps34
      go_wp2_with fail
      refine HI.out.mono ?_
      rintro e w1 ⟨rfl, rfl⟩
      go_wp2_with fail
      refine (RFromBytes_any X _ w HX.out.1 HX.out.2).mono ?_
      rintro e w2 ⟨⟨r, rfl, hs⟩, hb2⟩
      have H2 : Hid (Sl .u32 w2 r (fromS X).1 ∧ Below w.heap.size w w2) := ⟨hs, hb2⟩
      clear hs hb2
      go_wp2
      go_ret2
      refine ⟨⟨r, ?_, ?_⟩, H2.out.2⟩
      · rw [HV.out]; rfl
      · rw [HV.out]; exact H2.out.1
end Go.Proofs.YtillkhjihggcjaaGreatDoor
/-
  Rsa: which keys may be; in how many bytes a modulus stands.
-/
namespace Go.Proofs.YtillkhjihggcjaaGreatDoor
open Go.RowKit
set_option maxRecDepth 20000
theorem and_1q (x : Int) (h0 : 0 ≤ x) (h1 : x < 4294967296) : bits .and .u32 x 1 = x % 2 := by go_bits2
def bts (xs : List Int) : Nat := bitLen (val xs).toNat
def modOk (xs : List Int) : Bool := decide (xs.length ≤ 256 ∧ 512 ≤ bts xs ∧ xs.getD 0 0 % 2 = 1)
def expOk (xs : List Int) : Bool := decide (xs.length ≤ 256 ∧ 2 ≤ bts xs ∧ bts xs ≤ 64 ∧ xs.getD 0 0 % 2 = 1)
theorem bts_nil : bts [] = 0 := by decide
theorem sl_cell0 {w : World} {a : Option Addr} {len cap : Nat} {xs : List Int} (h : Sl .u32 w (.slice a len cap) xs) (hl : xs.length = len) (h0 : 0 < len) : ∃ b off, a = some ⟨b, off, none⟩ ∧ b < w.heap.size ∧ w.cell? ⟨b, off, none⟩ = some (.int .u32 (xs.getD 0 0)) := by
  obtain ⟨a', c', he, hc, h⟩ := h
  cases he
  rcases h with h | ⟨b, off, rfl, hb, hr⟩
  · rw [h] at h0; simp at h0
  · exact ⟨b, off, rfl, hb, by have := hr 0 (by omega); simpa using this⟩
set_option maxHeartbeats 1000000 in
theorem isModulus_any {w : World} (a : Option Addr) (len cap : Nat) (xs : List Int) (hx : Sl .u32 w (.slice a len cap) xs) (ux : U32s xs) (hl : xs.length = len) (hb : len ≤ 1152921504606846976) :
    Calls Tryz.prog 100 #[.slice a len cap] w fun e w' => e = .returned (.bool (modOk xs)) ∧ Below w.heap.size w w' := by
  by_cases h1 : ¬ len ≤ 256
  · have d1 : decide ((len : Int) ≤ 256) = false := by simp; omega
    have HE : Hid (modOk xs = false) := by unfold modOk; simp; intro h; omega
    clear hx ux hl
    go_enter Tryz.func100, Tryz.ntmps100
    go_wp2
    go_ret
    exact ⟨by rw [HE.out]; rfl, Below.refl _ _⟩
  have h1 := Decidable.not_not.1 h1
  have d1 : decide ((len : Int) ≤ 256) = true := by simp; omega
  obtain ⟨B, hB⟩ : ∃ B, bts xs = B := ⟨_, rfl⟩
  have HBt : Hid (∀ w', w' = w → Calls Tryz.prog 118 #[.slice a len cap] w' fun e w'' => e = .returned (.int .i64 B) ∧ Below w.heap.size w w'') := fun w' hw => by
    rw [hw]
    exact (NBits_any xs _ w hx ux (by omega)).mono fun _ _ h => ⟨by rw [h.1, ← hB]; rfl, h.2⟩
  by_cases h2 : ¬ 512 ≤ B
  · have d2 : decide ((512 : Int) ≤ (B : Int)) = false := by simp; omega
    have HE : Hid (modOk xs = false) := by unfold modOk; rw [hB]; simp; intro h h'; omega
    clear hx ux hl hB
    go_enter Tryz.func100, Tryz.ntmps100
    go_wp2_with (go_at_call 118; refine (HBt.out _ rfl).mono ?_; rintro e w1 ⟨rfl, hb1⟩)
    go_ret
    exact ⟨by rw [HE.out]; rfl, hb1⟩
  have h2 := Decidable.not_not.1 h2
  have d2 : decide ((512 : Int) ≤ (B : Int)) = true := by simp; omega
  have h0 : 0 < len := by
    refine Nat.pos_of_ne_zero fun h => ?_
    have : xs = [] := List.eq_nil_of_length_eq_zero (by omega)
    rw [this, bts_nil] at hB; omega
  obtain ⟨b, off, rfl, hbl, hc⟩ := sl_cell0 hx hl h0
  obtain ⟨x, hxe⟩ : ∃ x, xs.getD 0 0 = x := ⟨_, rfl⟩
  rw [hxe] at hc
  have hxu : 0 ≤ x ∧ x < 4294967296 := by
    have : xs.getD 0 0 ∈ xs := by rw [List.getD_eq_getElem?_getD, List.getElem?_eq_getElem (by omega)]; simp
    have := ux _ this; rw [hxe] at this; exact this
  have ha := and_1q x hxu.1 hxu.2
  have HE : Hid (modOk xs = decide (x % 2 = 1)) := by show modOk xs = decide (x % 2 = 1); unfold modOk; rw [hB, hxe]; simp [show xs.length ≤ 256 by omega, h2]
  have HC : Hid (∀ W : World, Below w.heap.size w W → W.cell? ⟨b, off, none⟩ = some (.int .u32 x)) := fun W hW => by rw [hW.cell (p := ⟨b, off, none⟩) hbl]; exact hc
  have h0I : (0 : Int) < (len : Int) := by omega
  clear hx ux hl hB hxe hc
  by_cases h3 : x % 2 = 1
  · have d3 : (x % 2 == 1) = true := by simpa using h3
    go_enter Tryz.func100, Tryz.ntmps100
    go_wp2_with (go_at_call 118; refine (HBt.out _ rfl).mono ?_; rintro e w1 ⟨rfl, hb1⟩; have hc1 := HC.out w1 hb1; have H1 : Hid (Below w.heap.size w w1) := hb1; clear hb1)
    go_ret
    exact ⟨by rw [HE.out]; simp [h3], H1.out⟩
  · have d3 : (x % 2 == 1) = false := by simpa using h3
    go_enter Tryz.func100, Tryz.ntmps100
    go_wp2_with (go_at_call 118; refine (HBt.out _ rfl).mono ?_; rintro e w1 ⟨rfl, hb1⟩; have hc1 := HC.out w1 hb1; have H1 : Hid (Below w.heap.size w w1) := hb1; clear hb1)
    go_ret
    exact ⟨by rw [HE.out]; simp [h3], H1.out⟩
set_option maxHeartbeats 1000000 in
theorem isExponent_any {w : World} (a : Option Addr) (len cap : Nat) (xs : List Int) (hx : Sl .u32 w (.slice a len cap) xs) (ux : U32s xs) (hl : xs.length = len) (hb : len ≤ 36028797018963968) :
    Calls Tryz.prog 101 #[.slice a len cap] w fun e w' => e = .returned (.bool (expOk xs)) ∧ Below w.heap.size w w' := by
  obtain ⟨B, hB⟩ : ∃ B, bts xs = B := ⟨_, rfl⟩
  have HBt : Hid (∀ w', w' = w → Calls Tryz.prog 118 #[.slice a len cap] w' fun e w'' => e = .returned (.int .i64 B) ∧ Below w.heap.size w w'') := fun w' hw => by
    rw [hw]
    exact (NBits_any xs _ w hx ux (by omega)).mono fun _ _ h => ⟨by rw [h.1, ← hB]; rfl, h.2⟩
  by_cases h1 : ¬ len ≤ 256
  · have d1 : decide ((len : Int) ≤ 256) = false := by simp; omega
    have HE : Hid (expOk xs = false) := by unfold expOk; simp; intro h; omega
    clear hx ux hl hB
    go_enter Tryz.func101, Tryz.ntmps101
    go_wp2_with (go_at_call 118; refine (HBt.out _ rfl).mono ?_; rintro e w1 ⟨rfl, hb1⟩)
    go_ret
    exact ⟨by rw [HE.out]; rfl, hb1⟩
  have h1 := Decidable.not_not.1 h1
  have d1 : decide ((len : Int) ≤ 256) = true := by simp; omega
  by_cases h2 : ¬ 2 ≤ B
  · have d2 : decide ((2 : Int) ≤ (B : Int)) = false := by simp; omega
    have HE : Hid (expOk xs = false) := by unfold expOk; rw [hB]; simp; intro h h'; omega
    clear hx ux hl hB
    go_enter Tryz.func101, Tryz.ntmps101
    go_wp2_with (go_at_call 118; refine (HBt.out _ rfl).mono ?_; rintro e w1 ⟨rfl, hb1⟩)
    go_ret
    exact ⟨by rw [HE.out]; rfl, hb1⟩
  have h2 := Decidable.not_not.1 h2
  have d2 : decide ((2 : Int) ≤ (B : Int)) = true := by simp; omega
  by_cases h4 : ¬ B ≤ 64
  · have d4 : decide ((B : Int) ≤ 64) = false := by simp; omega
    have HE : Hid (expOk xs = false) := by unfold expOk; rw [hB]; simp; intro h h' h''; omega
    clear hx ux hl hB
    go_enter Tryz.func101, Tryz.ntmps101
    go_wp2_with (go_at_call 118; refine (HBt.out _ rfl).mono ?_; rintro e w1 ⟨rfl, hb1⟩)
    go_ret
    exact ⟨by rw [HE.out]; rfl, hb1⟩
  have h4 := Decidable.not_not.1 h4
  have d4 : decide ((B : Int) ≤ 64) = true := by simp; omega
  have h0 : 0 < len := by
    refine Nat.pos_of_ne_zero fun h => ?_
    have : xs = [] := List.eq_nil_of_length_eq_zero (by omega)
    rw [this, bts_nil] at hB; omega
  obtain ⟨b, off, rfl, hbl, hc⟩ := sl_cell0 hx hl h0
  obtain ⟨x, hxe⟩ : ∃ x, xs.getD 0 0 = x := ⟨_, rfl⟩
  rw [hxe] at hc
  have hxu : 0 ≤ x ∧ x < 4294967296 := by
    have : xs.getD 0 0 ∈ xs := by rw [List.getD_eq_getElem?_getD, List.getElem?_eq_getElem (by omega)]; simp
    have := ux _ this; rw [hxe] at this; exact this
  have ha := and_1q x hxu.1 hxu.2
  have HE : Hid (expOk xs = decide (x % 2 = 1)) := by show expOk xs = decide (x % 2 = 1); unfold expOk; rw [hB, hxe]; simp [show xs.length ≤ 256 by omega, h2, h4]
  have HC : Hid (∀ W : World, Below w.heap.size w W → W.cell? ⟨b, off, none⟩ = some (.int .u32 x)) := fun W hW => by rw [hW.cell (p := ⟨b, off, none⟩) hbl]; exact hc
  have h0I : (0 : Int) < (len : Int) := by omega
  clear hx ux hl hB hxe hc
  by_cases h3 : x % 2 = 1
  · have d3 : (x % 2 == 1) = true := by simpa using h3
    go_enter Tryz.func101, Tryz.ntmps101
    go_wp2_with (go_at_call 118; refine (HBt.out _ rfl).mono ?_; rintro e w1 ⟨rfl, hb1⟩; have hc1 := HC.out w1 hb1; have H1 : Hid (Below w.heap.size w w1) := hb1; clear hb1)
    go_ret
    exact ⟨by rw [HE.out]; simp [h3], H1.out⟩
  · have d3 : (x % 2 == 1) = false := by simpa using h3
    go_enter Tryz.func101, Tryz.ntmps101
    go_wp2_with (go_at_call 118; refine (HBt.out _ rfl).mono ?_; rintro e w1 ⟨rfl, hb1⟩; have hc1 := HC.out w1 hb1; have H1 : Hid (Below w.heap.size w w1) := hb1; clear hb1)
    go_ret
    exact ⟨by rw [HE.out]; simp [h3], H1.out⟩
def keyOk (ns es : List Int) : Bool := modOk ns && expOk es
set_option maxHeartbeats 1000000 in
theorem Check_any {w : World} (a a' : Option Addr) (n c n' c' : Nat) (ns es : List Int) (hn : Sl .u32 w (.slice a n c) ns) (un : U32s ns) (ln : ns.length = n) (he : Sl .u32 w (.slice a' n' c') es) (ue : U32s es) (le : es.length = n') (hb : n ≤ 36028797018963968) (hb' : n' ≤ 36028797018963968) :
    Calls Tryz.prog 80 #[.agg #[.slice a n c, .slice a' n' c']] w fun e w' => e = .returned (.int .i64 (if keyOk ns es then 0 else 80)) ∧ Below w.heap.size w w' := by
  have HM : Hid (∀ W, Below w.heap.size w W → Calls Tryz.prog 100 #[.slice a n c] W fun e w'' => e = .returned (.bool (modOk ns)) ∧ Below W.heap.size W w'') := fun W hw => isModulus_any a n c ns (below_sl hw hn) un ln (by omega)
  have HE : Hid (∀ W, Below w.heap.size w W → Calls Tryz.prog 101 #[.slice a' n' c'] W fun e w'' => e = .returned (.bool (expOk es)) ∧ Below W.heap.size W w'') := fun W hw => isExponent_any a' n' c' es (below_sl hw he) ue le (by omega)
  clear hn un ln he ue le
  obtain ⟨R, hR⟩ : ∃ R : Int, (if keyOk ns es then 0 else 80) = R := ⟨_, rfl⟩
  rw [hR]
  have HR : Hid ((if keyOk ns es then (0 : Int) else 80) = R) := hR
  clear hR
  go_enter Tryz.func80, Tryz.ntmps80
  go_upto_region 1 with (fail)
  refine wp_gen (fun W => Blk 42 W w.heap.size [.slice a n c, .slice a' n' c'] ∧ Below w.heap.size w W) ⟨Blk.new _ w _, al1 _⟩ ?_
  rintro W2 ⟨hB, hBw⟩
  have hc0 : W2.cell? ⟨w.heap.size, 0, none⟩ = some (.slice a n c) := hB.cell 0
  have H2 : Hid (Below w.heap.size w W2 ∧ ∀ W3, Below W2.heap.size W2 W3 → W3.cell? ⟨w.heap.size, 1, none⟩ = some (.slice a' n' c') ∧ Below w.heap.size w W3) := ⟨hBw, fun W3 h3 => ⟨(below_blk h3 hB.lt hB).cell 1, below_via hBw h3 (Nat.le_refl _)⟩⟩
  clear hB hBw
  cases hm : modOk ns with
  | false =>
    rw [hm] at HM
    go_wp2_with (go_at_call 100; refine (HM.out _ H2.out.1).mono ?_; rintro e w3 ⟨rfl, hb3⟩; have H3 : Hid (Below w.heap.size w w3) := (H2.out.2 w3 hb3).2; clear hb3 hc0)
    go_ret
    exact ⟨by rw [← HR.out]; simp [keyOk, hm], H3.out⟩
  | true =>
    rw [hm] at HM
    cases hx : expOk es with
    | false =>
      rw [hx] at HE
      go_wp2_with (first
        | (go_at_call 100; refine (HM.out _ H2.out.1).mono ?_; rintro e w3 ⟨rfl, hb3⟩; have hc1 := (H2.out.2 w3 hb3).1; have H3 : Hid (Below w.heap.size w w3) := (H2.out.2 w3 hb3).2; clear hb3 hc0)
        | (go_at_call 101; refine (HE.out _ H3.out).mono ?_; rintro e w4 ⟨rfl, hb4⟩; have H4 : Hid (Below w.heap.size w w4) := below_via H3.out hb4 (Nat.le_refl _); clear hb4))
      go_ret
      exact ⟨by rw [← HR.out]; simp [keyOk, hm, hx], H4.out⟩
    | true =>
      rw [hx] at HE
      go_wp2_with (first
        | (go_at_call 100; refine (HM.out _ H2.out.1).mono ?_; rintro e w3 ⟨rfl, hb3⟩; have hc1 := (H2.out.2 w3 hb3).1; have H3 : Hid (Below w.heap.size w w3) := (H2.out.2 w3 hb3).2; clear hb3 hc0)
        | (go_at_call 101; refine (HE.out _ H3.out).mono ?_; rintro e w4 ⟨rfl, hb4⟩; have H4 : Hid (Below w.heap.size w w4) := below_via H3.out hb4 (Nat.le_refl _); clear hb4))
      go_ret
      exact ⟨by rw [← HR.out]; simp [keyOk, hm, hx], H4.out⟩
end Go.Proofs.YtillkhjihggcjaaGreatDoor
/-
  Der: of the reference: Digits, Trim (picked from W33, W37 by pick.py).
-/
namespace Go.Proofs.YtillkhjihggcjaaGreatDoor
open Go.RowKit
set_option maxRecDepth 6000
theorem and16 (x : Int) (h0 : 0 ≤ x) (h1 : x < 4294967296) : bits BinOp.and .u32 x 65535 = x % 65536 := by go_bits2
set_option maxHeartbeats 2000000 in
theorem Digits_any {w : World} (v : Value) (X : List Int) (hX : Sl .u32 w v X) (uX : U32s X) (hl : X.length ≤ 8796093022208) (N : Int) (hN : val X = N) :
    Calls Tryz.prog 83 #[v] w fun e w' => ∃ r, e = .returned r ∧ Sl .u64 w' r (D.lim N.toNat) ∧ Below w.heap.size w w' := by
  have hX0 := hX
  obtain ⟨a, c, hv, hc⟩ := hX.len
  subst hv
  have HN : Hid (val X = N) := hN
  clear hN
  go_enter Tryz.func83, Tryz.ntmps83
  go_wp2
  go_loopw [3, 4] (fun o i wr => ∃ k : Nat, k ≤ X.length ∧ i = .int .i64 k ∧ Row .u64 136 w.heap.size wr o (split (X.take k)) ∧ Below w.heap.size w wr) (fun _ i _ => X.length - (intOf i).toNat)
  case atStart => exact ⟨0, by omega, rfl, Row.nil _ _ _ _, Below.refl _ _⟩
  case round =>
    obtain ⟨k, hk, rfl, hrow, hBt⟩ := hrel
    by_cases hlt : k < X.length
    · obtain ⟨x, hx⟩ : ∃ x, X.getD k 0 = x := ⟨_, rfl⟩
      have ux : U32 x := hx ▸ uX.at k
      obtain ⟨ux1, ux2⟩ := ux
      obtain ⟨b, off, ha, hb, hr⟩ : ∃ b off, a = some ⟨b, off, none⟩ ∧ b < w.heap.size ∧ Rd .u32 w b off X := by
        obtain ⟨a', c', h1, _, h2⟩ := hX0
        cases h1
        rcases h2 with rfl | ⟨b, off, rfl, hb, hr⟩
        · simp at hlt
        · exact ⟨b, off, rfl, hb, hr⟩
      subst ha
      have hcx : wr.cell? ⟨b, off + k, none⟩ = some (.int .u32 x) := by rw [hBt.cell hb, hr k hlt, hx]
      have e1 := and16 x ux1 ux2
      have hw1 : IntKind.u64.wrap (x % 65536) = x % 65536 := by rw [IntKind.wrap_u64]; omega
      have hw2 : IntKind.u64.wrap (x / 65536) = x / 65536 := by rw [IntKind.wrap_u64]; omega
      have HH : Hid (X.getD k 0 = x ∧ Below w.heap.size w wr) := ⟨hx, hBt⟩
      have hsz : w.heap.size ≤ wr.heap.size := hBt.size
      have hlen : (split (X.take k)).length = 2 * k := by rw [split_length]; simp; omega
      have HL : Hid ((split (X.take k)).length = 2 * k) := hlen
      have hk0 : (0 : Int) ≤ (k : Int) := by omega
      have hkl : (k : Int) < (X.length : Int) := by omega
      clear hx hr hX hX0 hBt hlen
      go_wp2
      go_region_held3 (fun w' => w'.cell? ⟨b, off + k, none⟩ = some (.int .u32 x)) (first | go_keep | (rw [hB1.cell hb]; go_keep))
        ((refine step_ap (by rfl) (.tmp 11) (.tmp 24) 148 148 (by rfl) .u64 136 8 Tryz.und64 Tryz.info64 (by decide) w.heap.size _ (split (X.take k)) (by rfl) (Row.alloc (by assumption) _) _ [x % 65536, x / 65536] (by rfl) (src_sl Tryz.und64 (Arr.sl64 (S := [x % 65536, x / 65536]) (arr_new rfl rfl))) (by rw [HL.out]; show (2 * k + 2) * 8 ≤ _; omega) (by simp; omega) ?_; intro v1 w1 hr1 hg1; have hB1 := hg1.below (Row.alloc (by assumption) _) (by simp; omega)))
      all_goals go_wp2
      go_roundw
      case rel =>
        obtain ⟨hx, hBt⟩ := HH.out
        refine ⟨k + 1, by omega, by go_num, ?_, (al hBt).drew.trans hB1⟩
        rw [split_snoc X hlt, hx]; exact hr1
      case measure => simp [intOf]; omega
    · have hfull : X.take k = X := List.take_of_length_le (by omega)
      rw [hfull] at hrow
      have hs := hrow.sl
      clear hfull hX hX0 hrow
      go_wp2_with (go_at_call 106; refine (plain_sl _ (split X) hs (split_u16 uX) (by rw [split_length]; omega) N (by rw [split_val]; exact HN.out)).mono ?_; rintro e w' ⟨r, rfl, hr, rfl⟩)
      go_ret
      exact ⟨r, rfl, hr, hBt⟩
theorem pow16_32 (n : Nat) : (65536 : Int) ^ (2 * n) = 4294967296 ^ n := by rw [Int.pow_mul]; rfl
theorem RTrim_any {w : World} (v : Value) (X : List Int) (hX : Sl .u32 w v X) (uX : U32s X) (hl : X.length ≤ 268435456) (N : Int) (hN : val X = N) :
    Calls Tryz.prog 88 #[v] w fun e w' => ∃ r, e = .returned r ∧ Sl .u32 w' r (lim N.toNat) ∧ Below w.heap.size w w' := by
  have nN : 0 ≤ N := hN ▸ val_nonneg uX
  have bX := val_lt uX
  rw [hN] at bX
  have dN : (D.lim N.toNat).length ≤ 2 * X.length := D.lim_fits nN (by rw [pow16_32]; exact bX)
  have HX : Hid (val X = N) := hN
  have HV : Hid (D.val (D.lim N.toNat) = N) := D.val_limI nN
  have hBt : Below w.heap.size w w := Below.refl _ _
  clear hN bX nN
  go_enter Tryz.func88, Tryz.ntmps88
  go_wp2_with (first
    | (go_at_call 83; refine (Digits_any _ X hX uX (by omega) N HX.out).mono ?_; rintro e w' ⟨p, rfl, hp, hB⟩; replace hBt := grow0 hBt hB)
    | (go_at_call 82; refine (Limbs_any _ _ hp (D.lim_u16 _) (by omega) N HV.out).mono ?_; rintro e w' ⟨o, rfl, ho, hB⟩; replace hBt := grow0 hBt hB))
  go_ret
  exact ⟨_, rfl, ho, hBt⟩
end Go.Proofs.YtillkhjihggcjaaGreatDoor
/-
  Rsa: of the reference: Bits (as W42, over E98).
-/
namespace Go.Proofs.YtillkhjihggcjaaGreatDoor.D
theorem getD_div (xs : List Int) (i : Nat) (hu : U16s xs) : (val xs).toNat / 2 ^ (16 * i) % 65536 = (xs.getD i 0).toNat := by
  induction i generalizing xs with
  | zero =>
    rw [val_head_tail]
    have h1 := hu.at 0; unfold U16 at h1
    have h2 := val_nonneg hu.tl
    simp only [Nat.mul_zero, Nat.pow_zero, Nat.div_one]; omega
  | succ i ih =>
    have := ih xs.tail hu.tl
    rw [getD_tail] at this
    rw [← this, val_head_tail xs]
    have h1 := hu.at 0; unfold U16 at h1
    have h2 := val_nonneg hu.tl
    rw [Nat.mul_add, Nat.mul_one, Nat.add_comm, Nat.pow_add, ← Nat.div_div_eq_div_mul]
    congr 2; omega
theorem bit_eq (v i : Nat) : v / 2 ^ (16 * (i / 16)) % 65536 / 2 ^ (i % 16) % 2 = v / 2 ^ i % 2 := by
  have e : (65536 : Nat) = 2 ^ (i % 16) * 2 ^ (16 - i % 16) := by rw [← Nat.pow_add, show i % 16 + (16 - i % 16) = 16 by omega]
  have e2 : i = 16 * (i / 16) + i % 16 := by omega
  rw [e, Nat.mod_mul_right_div_self, Nat.div_div_eq_div_mul, ← Nat.pow_add, ← e2]
  have e3 : 2 ^ (16 - i % 16) = 2 * 2 ^ (15 - i % 16) := by rw [Nat.mul_comm, ← Nat.pow_succ]; congr 1; omega
  rw [e3, Nat.mod_mul_right_mod]
end Go.Proofs.YtillkhjihggcjaaGreatDoor.D
namespace Go.Proofs.YtillkhjihggcjaaGreatDoor
open Go.RowKit
set_option maxRecDepth 20000

theorem bitLen_lt {n k : Nat} (h : n < 2 ^ k) : bitLen n ≤ k := by
  have := bitLen_spec n
  apply Classical.byContradiction; intro hc
  by_cases h0 : n = 0
  · subst h0; simp [bitLen] at hc
  · have h2 := this.2 h0
    have h3 : 2 ^ k ≤ 2 ^ (bitLen n - 1) := Nat.pow_le_pow_right (by decide) (by omega)
    omega
theorem and1_64 (x : Int) (h0 : 0 ≤ x) (h1 : x < 18446744073709551616) : bits BinOp.and .u64 x 1 = x % 2 := by go_bits2
theorem bitLen_eq {n k : Nat} (h : n < 2 ^ (k + 1)) (h1 : n / 2 ^ k % 2 = 1) : bitLen n = k + 1 := by
  have h2 := bitLen_lt h
  have h3 := (bitLen_spec n).1
  have hge : 2 ^ k ≤ n := by
    apply Decidable.byContradiction; intro hc
    rw [Nat.div_eq_of_lt (by omega)] at h1; simp at h1
  apply Decidable.byContradiction; intro hc
  have : 2 ^ bitLen n ≤ 2 ^ k := Nat.pow_le_pow_right (by decide) (by omega)
  omega
theorem lt_half {n k : Nat} (h : n < 2 ^ (k + 1)) (h1 : n / 2 ^ k % 2 = 0) : n < 2 ^ k := by
  have h2 : n / 2 ^ k < 2 := Nat.div_lt_of_lt_mul (by rw [Nat.pow_succ] at h; exact h)
  have h3 : n / 2 ^ k = 0 := by
    generalize n / 2 ^ k = t at h1 h2
    omega
  rcases Nat.div_eq_zero_iff.1 h3 with h4 | h4
  · have : 0 < 2 ^ k := Nat.pow_pos (by decide)
    omega
  · exact h4

set_option maxHeartbeats 2000000 in
theorem RBits_any {w : World} (v : Value) (X : List Int) (hX : Sl .u32 w v X) (uX : U32s X) (hl : X.length ≤ 268435456) (N : Int) (hN : val X = N) :
    Calls Tryz.prog 62 #[v] w fun e w' => e = .returned (.int .i64 (bitLen N.toNat)) ∧ Below w.heap.size w w' := by
  have nN : 0 ≤ N := hN ▸ val_nonneg uX
  have bX := val_lt uX
  rw [hN] at bX
  obtain ⟨Ds, hDs⟩ : ∃ Ds, D.lim N.toNat = Ds := ⟨_, rfl⟩
  have dN : Ds.length ≤ 2 * X.length := by rw [← hDs]; exact D.lim_fits nN (by rw [pow16_32]; exact bX)
  have uD : D.U16s Ds := hDs ▸ D.lim_u16 _
  have vD : D.val Ds = N := by rw [← hDs]; exact D.val_limI nN
  have HX : Hid (val X = N) := hN
  have HD : Hid (D.lim N.toNat = Ds) := hDs
  have HV : Hid (D.U16s Ds ∧ D.val Ds = N) := ⟨uD, vD⟩
  have HST : Hid (N.toNat < 2 ^ (16 * Ds.length)) := by
    have h1 := D.val_lt uD
    rw [vD] at h1
    have h2 : ((N.toNat : Nat) : Int) < ((2 ^ (16 * Ds.length) : Nat) : Int) := by
      rw [Int.toNat_of_nonneg nN, Int.natCast_pow, Int.pow_mul]; exact h1
    exact Int.ofNat_lt.1 h2
  have hBt : Below w.heap.size w w := Below.refl _ _
  clear hN bX nN hDs uD vD
  go_enter Tryz.func62, Tryz.ntmps62
  go_wp2_with (go_at_call 83; refine (Digits_any _ X hX uX (by omega) N HX.out).mono ?_; rintro e w1 ⟨p, rfl, hp, hB⟩; rw [HD.out] at hp; replace hBt := grow0 hBt hB; obtain ⟨ap, cp, hvp, _⟩ := hp.len; subst hvp)
  go_loop [4] (fun i => ∃ k : Nat, i = .int .i64 k ∧ k ≤ 16 * Ds.length ∧ Hid (N.toNat < 2 ^ k)) (fun i => (intOf i).toNat)
  case atStart => exact ⟨16 * Ds.length, by go_num, Nat.le_refl _, HST.out⟩
  case round =>
    clear HST
    obtain ⟨k, rfl, hk, HK⟩ := hrel
    cases k with
    | zero =>
      have HZ : Hid (bitLen N.toNat = 0) := by
        have h1 := HK.out
        have h2 : N.toNat = 0 := by simpa using h1
        rw [h2]; rfl
      clear HK
      go_wp2
      go_ret
      exact ⟨by rw [HZ.out]; rfl, hBt⟩
    | succ m =>
      obtain ⟨b, off, ha, hb, hrd⟩ : ∃ b off, ap = some ⟨b, off, none⟩ ∧ b < w1.heap.size ∧ Rd .u64 w1 b off Ds := by
        obtain ⟨a', c', h1, _, h2⟩ := id hp
        cases h1
        rcases h2 with rfl | ⟨b, off, rfl, hb, hr⟩
        · simp at hk
        · exact ⟨b, off, rfl, hb, hr⟩
      subst ha
      obtain ⟨q, hq⟩ : ∃ q, m / 16 = q := ⟨_, rfl⟩
      obtain ⟨s, hs⟩ : ∃ s, m % 16 = s := ⟨_, rfl⟩
      obtain ⟨y, hy⟩ : ∃ y, Ds.getD q 0 = y := ⟨_, rfl⟩
      have uy : D.U16 y := hy ▸ HV.out.1.at _
      obtain ⟨uy1, uy2⟩ := uy
      have hcy : w1.cell? ⟨b, off + q, none⟩ = some (.int .u64 y) := by rw [hrd q (by omega), hy]
      have HB : Hid (N.toNat / 2 ^ m % 2 = y.toNat / 2 ^ s % 2) := by
        show N.toNat / 2 ^ m % 2 = y.toNat / 2 ^ s % 2
        rw [← D.bit_eq, hq, hs, ← HV.out.2, D.getD_div Ds q HV.out.1, hy]
      have hmi : (m : Int) / 16 = q := by omega
      have hsi : (m : Int) % 16 = s := by omega
      have hs16 : s < 16 := by omega
      have hqD : q < Ds.length := by omega
      have hp2 : 0 < (2 : Int) ^ s := Int.pow_pos (by decide)
      have hd0 : 0 ≤ y / 2 ^ s := Int.ediv_nonneg uy1 (Int.le_of_lt hp2)
      have hd1 : y / 2 ^ s < 18446744073709551616 := by have := Int.ediv_le_self (2 ^ s) uy1; omega
      have hand := and1_64 (y / 2 ^ s) hd0 hd1
      have hcast : ((y.toNat / 2 ^ s % 2 : Nat) : Int) = y / 2 ^ s % 2 := by
        obtain ⟨n, rfl⟩ := Int.eq_ofNat_of_zero_le uy1
        simp
      obtain ⟨bt, hbt⟩ : ∃ bt, y / 2 ^ s % 2 = bt := ⟨_, rfl⟩
      rw [hbt] at hand hcast
      have hb01 : bt = 0 ∨ bt = 1 := by omega
      have HB2 : Hid (N.toNat / 2 ^ m % 2 = bt.toNat) := by
        show N.toNat / 2 ^ m % 2 = bt.toNat
        rw [HB.out]; omega
      clear hq hs hy hbt hcast HB hrd
      rcases hb01 with rfl | rfl
      · go_wp2
        go_round
        case rel => exact ⟨m, by go_num, by omega, lt_half HK.out HB2.out⟩
        case measure => simp [intOf]
      · have HR : Hid (bitLen N.toNat = m + 1) := bitLen_eq HK.out HB2.out
        go_wp2
        go_ret
        exact ⟨by rw [HR.out]; rfl, hBt⟩
end Go.Proofs.YtillkhjihggcjaaGreatDoor
/-
  Rsa: the reference's Check and Size.
-/
namespace Go.Proofs.YtillkhjihggcjaaGreatDoor
open Go.RowKit
set_option maxRecDepth 20000
set_option maxHeartbeats 4000000 in
theorem RCheck_any {w : World} (a a' : Option Addr) (n c n' c' : Nat) (ns es : List Int) (hn : Sl .u32 w (.slice a n c) ns) (un : U32s ns) (ln : ns.length = n) (he : Sl .u32 w (.slice a' n' c') es) (ue : U32s es) (le : es.length = n') (hb : n ≤ 600) (hb' : n' ≤ 600) :
    Calls Tryz.prog 35 #[.agg #[.slice a n c, .slice a' n' c']] w fun e w' => e = .returned (.int .i64 (if keyOk ns es then 0 else 80)) ∧ Below w.heap.size w w' := by
  obtain ⟨B, hB⟩ : ∃ B, bts ns = B := ⟨_, rfl⟩
  obtain ⟨C, hC⟩ : ∃ C, bts es = C := ⟨_, rfl⟩
  have HM : Hid (∀ W, Below w.heap.size w W → Calls Tryz.prog 62 #[.slice a n c] W fun e w'' => e = .returned (.int .i64 B) ∧ Below W.heap.size W w'') := fun W hw =>
    (RBits_any _ ns (below_sl hw hn) un (by omega) _ rfl).mono fun _ _ h => ⟨by rw [h.1, ← hB]; rfl, h.2⟩
  have HE : Hid (∀ W, Below w.heap.size w W → Calls Tryz.prog 62 #[.slice a' n' c'] W fun e w'' => e = .returned (.int .i64 C) ∧ Below W.heap.size W w'') := fun W hw =>
    (RBits_any _ es (below_sl hw he) ue (by omega) _ rfl).mono fun _ _ h => ⟨by rw [h.1, ← hC]; rfl, h.2⟩
  obtain ⟨R, hR⟩ : ∃ R : Int, (if keyOk ns es then 0 else 80) = R := ⟨_, rfl⟩
  rw [hR]
  obtain ⟨x, hx⟩ : ∃ x, ns.getD 0 0 = x := ⟨_, rfl⟩
  obtain ⟨y, hy⟩ : ∃ y, es.getD 0 0 = y := ⟨_, rfl⟩
  have hk : keyOk ns es = decide ((n ≤ 256 ∧ 512 ≤ B ∧ x % 2 = 1) ∧ n' ≤ 256 ∧ 2 ≤ C ∧ C ≤ 64 ∧ y % 2 = 1) := by
    unfold keyOk modOk expOk; rw [ln, le, hB, hC, hx, hy]; simp only [Bool.decide_and, Bool.and_assoc]
  rw [hk] at hR
  have HR : Hid ((if decide ((n ≤ 256 ∧ 512 ≤ B ∧ x % 2 = 1) ∧ n' ≤ 256 ∧ 2 ≤ C ∧ C ≤ 64 ∧ y % 2 = 1) then (0 : Int) else 80) = R) := hR
  have ux : 0 ≤ x ∧ x < 4294967296 := hx ▸ un.at 0
  have uy : 0 ≤ y ∧ y < 4294967296 := hy ▸ ue.at 0
  have pN : 512 ≤ B → 0 < n := fun h => Nat.pos_of_ne_zero fun h0 => by
    have : ns = [] := List.eq_nil_of_length_eq_zero (by omega)
    rw [this, bts_nil] at hB; omega
  have pE : 2 ≤ C → 0 < n' := fun h => Nat.pos_of_ne_zero fun h0 => by
    have : es = [] := List.eq_nil_of_length_eq_zero (by omega)
    rw [this, bts_nil] at hC; omega
  have HN : Hid (0 < n → ∃ b off, a = some ⟨b, off, none⟩ ∧ ∀ W : World, Below w.heap.size w W → W.cell? ⟨b, off, none⟩ = some (.int .u32 x)) := fun h0 => by
    obtain ⟨b, off, h1, h2, h3⟩ := sl_cell0 hn ln h0
    exact ⟨b, off, h1, fun W hW => by rw [hW.cell (p := ⟨b, off, none⟩) h2, h3, hx]⟩
  have HX : Hid (0 < n' → ∃ b off, a' = some ⟨b, off, none⟩ ∧ ∀ W : World, Below w.heap.size w W → W.cell? ⟨b, off, none⟩ = some (.int .u32 y)) := fun h0 => by
    obtain ⟨b, off, h1, h2, h3⟩ := sl_cell0 he le h0
    exact ⟨b, off, h1, fun W hW => by rw [hW.cell (p := ⟨b, off, none⟩) h2, h3, hy]⟩
  clear hn un ln he ue le hR hk hx hy hB hC
  go_enter Tryz.func35, Tryz.ntmps35
  go_upto_region 1 with (fail)
  refine wp_gen (fun W => Blk 42 W w.heap.size [.slice a n c, .slice a' n' c'] ∧ Below w.heap.size w W) ⟨Blk.new _ w _, al1 _⟩ ?_
  rintro W2 ⟨hB, hBw⟩
  have hc0 : W2.cell? ⟨w.heap.size, 0, none⟩ = some (.slice a n c) := hB.cell 0
  have hc1 : W2.cell? ⟨w.heap.size, 1, none⟩ = some (.slice a' n' c') := hB.cell 1
  have H2 : Hid (Below w.heap.size w W2 ∧ ∀ W3, Below W2.heap.size W2 W3 → W3.cell? ⟨w.heap.size, 0, none⟩ = some (.slice a n c) ∧ W3.cell? ⟨w.heap.size, 1, none⟩ = some (.slice a' n' c') ∧ Below w.heap.size w W3) := ⟨hBw, fun W3 h3 => ⟨(below_blk h3 hB.lt hB).cell 0, (below_blk h3 hB.lt hB).cell 1, below_via hBw h3 (Nat.le_refl _)⟩⟩
  clear hB hBw
  by_cases h1 : ¬ n ≤ 256
  · have d1 : decide ((256 : Int) < (n : Int)) = true := by simp; omega
    go_wp2
    go_ret
    exact ⟨by rw [← HR.out, if_neg (by simp; omega)]; rfl, H2.out.1⟩
  have h1 := Decidable.not_not.1 h1
  have d1 : decide ((256 : Int) < (n : Int)) = false := by simp; omega
  by_cases h2 : ¬ n' ≤ 256
  · have d2 : decide ((256 : Int) < (n' : Int)) = true := by simp; omega
    go_wp2
    go_ret
    exact ⟨by rw [← HR.out, if_neg (by simp; omega)]; rfl, H2.out.1⟩
  have h2 := Decidable.not_not.1 h2
  have d2 : decide ((256 : Int) < (n' : Int)) = false := by simp; omega
  by_cases h3 : ¬ 512 ≤ B
  · have d3 : decide ((B : Int) < 512) = true := by simp; omega
    go_wp2_with (go_at_call 62; refine (HM.out _ H2.out.1).mono ?_; rintro e w3 ⟨rfl, hb3⟩; have H3 : Hid (Below w.heap.size w w3) := (H2.out.2 w3 hb3).2.2; clear hb3 hc0 hc1)
    go_ret
    exact ⟨by rw [← HR.out, if_neg (by simp; omega)]; rfl, H3.out⟩
  have h3 := Decidable.not_not.1 h3
  have d3 : decide ((B : Int) < 512) = false := by simp; omega
  by_cases h4 : ¬ 2 ≤ C
  · have d4 : decide ((C : Int) < 2) = true := by simp; omega
    go_wp2_with fail
    refine (HM.out _ H2.out.1).mono ?_
    rintro e w3 ⟨rfl, hb3⟩
    have hd1 := (H2.out.2 w3 hb3).2.1
    have H3 : Hid (Below w.heap.size w w3) := (H2.out.2 w3 hb3).2.2
    clear hb3 hc0 hc1
    go_wp2_with (go_at_call 62; refine (HE.out _ H3.out).mono ?_; rintro e w4 ⟨rfl, hb4⟩; have H4 : Hid (Below w.heap.size w w4) := below_via H3.out hb4 (Nat.le_refl _); clear hb4 hd1)
    go_ret
    exact ⟨by rw [← HR.out, if_neg (by simp; omega)]; rfl, H4.out⟩
  have h4 := Decidable.not_not.1 h4
  have d4 : decide ((C : Int) < 2) = false := by simp; omega
  obtain ⟨b, off, rfl, hN⟩ := HN.out (pN h3)
  obtain ⟨b', off', rfl, hX⟩ := HX.out (pE h4)
  have h0I : (0 : Int) < (n : Int) := by have := pN h3; omega
  have h0J : (0 : Int) < (n' : Int) := by have := pE h4; omega
  have HN' : Hid (∀ W : World, Below w.heap.size w W → W.cell? ⟨b, off, none⟩ = some (.int .u32 x)) := hN
  have HX' : Hid (∀ W : World, Below w.heap.size w W → W.cell? ⟨b', off', none⟩ = some (.int .u32 y)) := hX
  clear hN hX HN HX pN pE
  go_wp2_with fail
  refine (HM.out _ H2.out.1).mono ?_
  rintro e w3 ⟨rfl, hb3⟩
  have hd1 := (H2.out.2 w3 hb3).2.1
  have H3 : Hid (Below w.heap.size w w3 ∧ Below W2.heap.size W2 w3) := ⟨(H2.out.2 w3 hb3).2.2, hb3⟩
  clear hb3 hc0 hc1
  go_wp2_with fail
  refine (HE.out _ H3.out.1).mono ?_
  rintro e w4 ⟨rfl, hb4⟩
  have he1 := (H2.out.2 w4 (below_via H3.out.2 hb4 (Nat.le_refl _))).2.1
  have H4 : Hid (Below w.heap.size w w4 ∧ Below W2.heap.size W2 w4) := ⟨below_via H3.out.1 hb4 (Nat.le_refl _), below_via H3.out.2 hb4 (Nat.le_refl _)⟩
  clear hb4 hd1
  by_cases h5 : ¬ C ≤ 64
  · have d5 : decide ((64 : Int) < (C : Int)) = true := by simp; omega
    go_wp2_with (go_at_call 62; refine (HE.out _ H4.out.1).mono ?_; rintro e w5 ⟨rfl, hb5⟩; have H5 : Hid (Below w.heap.size w w5) := below_via H4.out.1 hb5 (Nat.le_refl _); clear hb5 he1)
    go_ret
    exact ⟨by rw [← HR.out, if_neg (by simp; omega)]; rfl, H5.out⟩
  have h5 := Decidable.not_not.1 h5
  have d5 : decide ((64 : Int) < (C : Int)) = false := by simp; omega
  go_wp2_with fail
  refine (HE.out _ H4.out.1).mono ?_
  rintro e w5 ⟨rfl, hb5⟩
  have hf0 := (H2.out.2 w5 (below_via H4.out.2 hb5 (Nat.le_refl _))).1
  have hf1 := (H2.out.2 w5 (below_via H4.out.2 hb5 (Nat.le_refl _))).2.1
  have H5 : Hid (Below w.heap.size w w5) := below_via H4.out.1 hb5 (Nat.le_refl _)
  have hgx := HN'.out w5 H5.out
  have hgy := HX'.out w5 H5.out
  clear hb5 he1
  by_cases h6 : ¬ x % 2 = 1
  · have d6 : (x % 2 == 0) = true := by simp; omega
    go_wp2
    go_ret
    exact ⟨by rw [← HR.out, if_neg (by simp; omega)]; rfl, H5.out⟩
  have h6 := Decidable.not_not.1 h6
  have d6 : (x % 2 == 0) = false := by simp; omega
  by_cases h7 : ¬ y % 2 = 1
  · have d7 : (y % 2 == 0) = true := by simp; omega
    go_wp2
    go_ret
    exact ⟨by rw [← HR.out, if_neg (by simp; omega)]; rfl, H5.out⟩
  have h7 := Decidable.not_not.1 h7
  have d7 : (y % 2 == 0) = false := by simp; omega
  go_wp2
  go_ret
  exact ⟨by rw [← HR.out, if_pos (by simp; omega)]; rfl, H5.out⟩
end Go.Proofs.YtillkhjihggcjaaGreatDoor
