/-
  Der: any bytes as a number that is not below 0.
-/
import Derived.Test.YtndcpjnfdgojkaaDoorE89
namespace Go.Proofs.YtndcpjnfdgojkaaDoor
open Go.RowKit
def uintS (X : List Int) : List Int × Int := if intOk X = false then ([], 6) else if 128 ≤ X.getD 0 0 then ([], 40) else if X.getD 0 0 = 0 then fromS (X.drop 1) else fromS X
def UAns (X : List Int) (w w' : World) (e : Ending) : Prop := (∃ r, e = .returned (.tuple #[r, .int .i64 (uintS X).2]) ∧ Sl .u32 w' r (uintS X).1) ∧ Below w.heap.size w w'
theorem UAns.nil {X : List Int} {w : World} {n : Int} (h : uintS X = ([], n)) : UAns X w w (.returned (.tuple #[.slice none 0 0, .int .i64 n])) := by
  unfold UAns; rw [h]; exact ⟨⟨_, rfl, ⟨none, 0, rfl, Nat.le_refl _, .inl rfl⟩⟩, Below.refl _ _⟩
set_option maxRecDepth 20000 in
set_option maxHeartbeats 4000000 in
theorem Uint_any {w : World} (v : Value) (X : List Int) (hX : Sl .u8 w v X) (uX : U8s X) (hl : X.length ≤ 16384) :
    Calls Tryd.prog 21 #[v] w fun e w' => UAns X w w' e := by
  have HI : Hid (Calls Tryd.prog 39 #[v] w fun e w' => e = .returned (.bool (intOk X)) ∧ w = w') := isInt_any v X hX uX hl
  have HX : Hid (Sl .u8 w v X ∧ U8s X) := ⟨hX, uX⟩
  obtain ⟨a, c, rfl, hc, hx⟩ := hX
  obtain ⟨n, hn⟩ : ∃ n, X.length = n := ⟨_, rfl⟩
  rw [hn] at HI HX hc ⊢
  cases hok : intOk X with
  | false =>
    have HV : Hid (uintS X = ([], 6)) := by unfold uintS; rw [if_pos hok]; rfl
    rw [hok] at HI
    clear hx hok
    go_enter Tryd.func21, Tryd.ntmps21
    go_wp2_with fail
    refine HI.out.mono ?_
    rintro e w1 ⟨rfl, rfl⟩
    go_wp2
    go_ret2
    exact UAns.nil HV.out
  | true =>
    have hne := intOk_ne hok
    rw [hok] at HI
    rcases hx with hx | ⟨b, off, rfl, hb, hr⟩
    · rw [hx] at hne; simp at hne
    rw [hn] at hne
    have hneI : (1 : Int) ≤ (n : Int) := by omega
    have hneI2 : (0 : Int) < (n : Int) := by omega
    have hcI : (1 : Int) ≤ (c : Int) := by omega
    obtain ⟨x, hx⟩ : ∃ x, X.getD 0 0 = x := ⟨_, rfl⟩
    have cx : w.cell? ⟨b, off, none⟩ = some (.int .u8 x) := by have := hr 0 (by omega); rw [hx] at this; exact this
    have ux := uX.at 0
    rw [hx] at ux
    obtain ⟨x0, x1⟩ := ux
    by_cases h128 : 128 ≤ x
    · have HV : Hid (uintS X = ([], 40)) := by unfold uintS; rw [if_neg (by rw [hok]; simp), if_pos (by rw [hx]; exact h128)]; rfl
      clear hr hok hx
      go_enter Tryd.func21, Tryd.ntmps21
      go_wp2_with fail
      refine HI.out.mono ?_
      rintro e w1 ⟨rfl, rfl⟩
      go_wp2
      go_ret2
      exact UAns.nil HV.out
    by_cases h0 : x = 0
    · have HV : Hid (uintS X = fromS (X.drop 1)) := by unfold uintS; rw [if_neg (by rw [hok]; simp), if_neg (by rw [hx]; exact h128), if_pos (by rw [hx]; exact h0)]; rfl
      obtain ⟨ba, hba⟩ : ∃ ba : Option Addr, (if c = 1 then some ⟨b, off, none⟩ else some ⟨b, off + 1, none⟩) = ba := ⟨_, rfl⟩
      obtain ⟨n2, hn2⟩ : ∃ n2, n - 1 = n2 := ⟨_, rfl⟩
      obtain ⟨c2, hc2⟩ : ∃ c2, c - 1 = c2 := ⟨_, rfl⟩
      have HS : Hid (Sl .u8 w (.slice ba n2 c2) (X.drop 1)) := by
        refine ⟨ba, c2, by rw [List.length_drop, hn, hn2], by rw [List.length_drop, hn]; omega, ?_⟩
        by_cases hn1 : n = 1
        · left; exact List.eq_nil_of_length_eq_zero (by rw [List.length_drop]; omega)
        · right
          refine ⟨b, off + 1, by rw [← hba, if_neg (by omega)], hb, fun i hi => ?_⟩
          rw [List.length_drop] at hi
          have := hr (1 + i) (by omega)
          rw [show off + (1 + i) = off + 1 + i by omega] at this
          rw [this, List.getD_eq_getElem?_getD, List.getD_eq_getElem?_getD, List.getElem?_drop]
      obtain ⟨Z, hZ⟩ : ∃ Z, X.drop 1 = Z := ⟨_, rfl⟩
      have HZ : Hid (U8s Z) := fun y hy => HX.out.2 y (by rw [← hZ] at hy; exact List.mem_of_mem_drop hy)
      rw [hZ] at HS HV
      subst h0
      clear hr hok hx h128 hZ
      go_enter Tryd.func21, Tryd.ntmps21
      go_wp2_with fail
      refine HI.out.mono ?_
      rintro e w1 ⟨rfl, rfl⟩
      go_wp2_with fail
      refine (FromBytes_any Z _ w HS.out HZ.out).mono ?_
      rintro e w2 ⟨⟨r, rfl, hs⟩, hb2⟩
      have H2 : Hid (Sl .u32 w2 r (fromS Z).1 ∧ Below w.heap.size w w2) := ⟨hs.sl, hb2⟩
      clear hs hb2
      go_wp2
      go_ret2
      refine ⟨⟨r, ?_, ?_⟩, H2.out.2⟩
      · rw [HV.out]; rfl
      · rw [HV.out]; exact H2.out.1
    · have HV : Hid (uintS X = fromS X) := by unfold uintS; rw [if_neg (by rw [hok]; simp), if_neg (by rw [hx]; exact h128), if_neg (by rw [hx]; exact h0)]; rfl
      have b0 : (x == 0) = false := by simpa using h0
      clear hr hok hx h0
      go_enter Tryd.func21, Tryd.ntmps21
      go_wp2_with fail
      refine HI.out.mono ?_
      rintro e w1 ⟨rfl, rfl⟩
      go_wp2_with fail
      refine (FromBytes_any X _ w HX.out.1 HX.out.2).mono ?_
      rintro e w2 ⟨⟨r, rfl, hs⟩, hb2⟩
      have H2 : Hid (Sl .u32 w2 r (fromS X).1 ∧ Below w.heap.size w w2) := ⟨hs.sl, hb2⟩
      clear hs hb2
      go_wp2
      go_ret2
      refine ⟨⟨r, ?_, ?_⟩, H2.out.2⟩
      · rw [HV.out]; rfl
      · rw [HV.out]; exact H2.out.1
set_option maxRecDepth 20000 in
set_option maxHeartbeats 4000000 in
theorem RUint_any {w : World} (v : Value) (X : List Int) (hX : Sl .u8 w v X) (uX : U8s X) (hl : X.length ≤ 16384) :
    Calls Tryd.prog 22 #[v] w fun e w' => UAns X w w' e := by
  have HI : Hid (Calls Tryd.prog 40 #[v] w fun e w' => e = .returned (.bool (intOk X)) ∧ w = w') := whole_any v X hX uX hl
  have HX : Hid (Sl .u8 w v X ∧ U8s X) := ⟨hX, uX⟩
  obtain ⟨a, c, rfl, hc, hx⟩ := hX
  obtain ⟨n, hn⟩ : ∃ n, X.length = n := ⟨_, rfl⟩
  rw [hn] at HI HX hc ⊢
  cases hok : intOk X with
  | false =>
    have HV : Hid (uintS X = ([], 6)) := by unfold uintS; rw [if_pos hok]; rfl
    rw [hok] at HI
    clear hx hok
    go_enter Tryd.func22, Tryd.ntmps22
    go_wp2_with fail
    refine HI.out.mono ?_
    rintro e w1 ⟨rfl, rfl⟩
    go_wp2
    go_ret2
    exact UAns.nil HV.out
  | true =>
    have hne := intOk_ne hok
    rw [hok] at HI
    rcases hx with hx | ⟨b, off, rfl, hb, hr⟩
    · rw [hx] at hne; simp at hne
    rw [hn] at hne
    have hneI : (1 : Int) ≤ (n : Int) := by omega
    have hneI2 : (0 : Int) < (n : Int) := by omega
    have hcI : (1 : Int) ≤ (c : Int) := by omega
    obtain ⟨x, hx⟩ : ∃ x, X.getD 0 0 = x := ⟨_, rfl⟩
    have cx : w.cell? ⟨b, off, none⟩ = some (.int .u8 x) := by have := hr 0 (by omega); rw [hx] at this; exact this
    have ux := uX.at 0
    rw [hx] at ux
    obtain ⟨x0, x1⟩ := ux
    by_cases h128 : 128 ≤ x
    · have HV : Hid (uintS X = ([], 40)) := by unfold uintS; rw [if_neg (by rw [hok]; simp), if_pos (by rw [hx]; exact h128)]; rfl
      clear hr hok hx
      go_enter Tryd.func22, Tryd.ntmps22
      go_wp2_with fail
      refine HI.out.mono ?_
      rintro e w1 ⟨rfl, rfl⟩
      go_wp2
      go_ret2
      exact UAns.nil HV.out
    by_cases h0 : x = 0
    · have HV : Hid (uintS X = fromS (X.drop 1)) := by unfold uintS; rw [if_neg (by rw [hok]; simp), if_neg (by rw [hx]; exact h128), if_pos (by rw [hx]; exact h0)]; rfl
      obtain ⟨ba, hba⟩ : ∃ ba : Option Addr, (if c = 1 then some ⟨b, off, none⟩ else some ⟨b, off + 1, none⟩) = ba := ⟨_, rfl⟩
      obtain ⟨n2, hn2⟩ : ∃ n2, n - 1 = n2 := ⟨_, rfl⟩
      obtain ⟨c2, hc2⟩ : ∃ c2, c - 1 = c2 := ⟨_, rfl⟩
      have HS : Hid (Sl .u8 w (.slice ba n2 c2) (X.drop 1)) := by
        refine ⟨ba, c2, by rw [List.length_drop, hn, hn2], by rw [List.length_drop, hn]; omega, ?_⟩
        by_cases hn1 : n = 1
        · left; exact List.eq_nil_of_length_eq_zero (by rw [List.length_drop]; omega)
        · right
          refine ⟨b, off + 1, by rw [← hba, if_neg (by omega)], hb, fun i hi => ?_⟩
          rw [List.length_drop] at hi
          have := hr (1 + i) (by omega)
          rw [show off + (1 + i) = off + 1 + i by omega] at this
          rw [this, List.getD_eq_getElem?_getD, List.getD_eq_getElem?_getD, List.getElem?_drop]
      obtain ⟨Z, hZ⟩ : ∃ Z, X.drop 1 = Z := ⟨_, rfl⟩
      have HZ : Hid (U8s Z) := fun y hy => HX.out.2 y (by rw [← hZ] at hy; exact List.mem_of_mem_drop hy)
      rw [hZ] at HS HV
      subst h0
      clear hr hok hx h128 hZ
      go_enter Tryd.func22, Tryd.ntmps22
      go_wp2_with fail
      refine HI.out.mono ?_
      rintro e w1 ⟨rfl, rfl⟩
      go_wp2_with fail
      refine (RFromBytes_any Z _ w HS.out HZ.out).mono ?_
      rintro e w2 ⟨⟨r, rfl, hs⟩, hb2⟩
      have H2 : Hid (Sl .u32 w2 r (fromS Z).1 ∧ Below w.heap.size w w2) := ⟨hs, hb2⟩
      clear hs hb2
      go_wp2
      go_ret2
      refine ⟨⟨r, ?_, ?_⟩, H2.out.2⟩
      · rw [HV.out]; rfl
      · rw [HV.out]; exact H2.out.1
    · have HV : Hid (uintS X = fromS X) := by unfold uintS; rw [if_neg (by rw [hok]; simp), if_neg (by rw [hx]; exact h128), if_neg (by rw [hx]; exact h0)]; rfl
      have b0 : (x == 0) = false := by simpa using h0
      clear hr hok hx h0
      go_enter Tryd.func22, Tryd.ntmps22
      go_wp2_with fail
      refine HI.out.mono ?_
      rintro e w1 ⟨rfl, rfl⟩
      go_wp2_with fail
      refine (RFromBytes_any X _ w HX.out.1 HX.out.2).mono ?_
      rintro e w2 ⟨⟨r, rfl, hs⟩, hb2⟩
      have H2 : Hid (Sl .u32 w2 r (fromS X).1 ∧ Below w.heap.size w w2) := ⟨hs, hb2⟩
      clear hs hb2
      go_wp2
      go_ret2
      refine ⟨⟨r, ?_, ?_⟩, H2.out.2⟩
      · rw [HV.out]; rfl
      · rw [HV.out]; exact H2.out.1
end Go.Proofs.YtndcpjnfdgojkaaDoor
