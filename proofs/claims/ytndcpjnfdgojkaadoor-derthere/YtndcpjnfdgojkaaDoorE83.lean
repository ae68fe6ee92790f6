/-
  Der: yes or no; are bytes a number's?
-/
import Derived.Test.YtndcpjnfdgojkaaDoorE13
namespace Go.Proofs.YtndcpjnfdgojkaaDoor
open Go.RowKit
/-- What Bool answers. -/
def boolV (X : List Int) : Bool := decide (X.length = 1) && decide (X.getD 0 0 = 255)
def boolE (X : List Int) : Int := if X.length = 1 ∧ (X.getD 0 0 = 0 ∨ X.getD 0 0 = 255) then 0 else 6
theorem bool_cases {w : World} {v : Value} {X : List Int} (hX : Sl .u8 w v X) (uX : U8s X) : (∃ a n c, v = .slice a n c ∧ X.length = n ∧ n ≠ 1) ∨ ∃ b off c x, v = .slice (some ⟨b, off, none⟩) 1 c ∧ X = [x] ∧ U8 x ∧ w.cell? ⟨b, off, none⟩ = some (.int .u8 x) := by
  obtain ⟨a, c, rfl, hc, hx⟩ := hX
  by_cases h : X.length = 1
  · right
    rcases hx with hx | ⟨b, off, rfl, hb, hr⟩
    · rw [hx] at h; simp at h
    · match X, h with
      | [x], _ => exact ⟨b, off, c, x, rfl, rfl, uX x (by simp), hr 0 (by simp)⟩
  · exact .inl ⟨a, _, c, rfl, rfl, h⟩
set_option maxHeartbeats 1000000 in
theorem Bool_any {w : World} (v : Value) (X : List Int) (hX : Sl .u8 w v X) (uX : U8s X) (hl : X.length ≤ 16384) :
    Calls Tryd.prog 17 #[v] w fun e w' => e = .returned (.tuple #[.bool (boolV X), .int .i64 (boolE X)]) ∧ w = w' := by
  rcases bool_cases hX uX with ⟨a, n, c, rfl, hn, h1⟩ | ⟨b, off, c, x, rfl, rfl, ⟨u0, u1⟩, hc⟩
  · have HV : Hid (boolV X = false ∧ boolE X = 6) := by
      refine ⟨?_, ?_⟩
      · unfold boolV; rw [hn]; simp [h1]
      · unfold boolE; rw [if_neg (by rw [hn]; omega)]
    have hb : ((n : Int) != 1) = true := by
      have : ¬ (n : Int) = 1 := by omega
      simpa using this
    clear hX uX hn h1
    go_enter Tryd.func17, Tryd.ntmps17
    go_wp2
    go_ret2
    exact ⟨by rw [HV.out.1, HV.out.2]; rfl, rfl⟩
  · by_cases h0 : x = 0
    · subst h0
      clear hX uX
      go_enter Tryd.func17, Tryd.ntmps17
      go_wp2
      go_ret2
      exact ⟨rfl, rfl⟩
    · by_cases h255 : x = 255
      · subst h255
        clear hX uX
        go_enter Tryd.func17, Tryd.ntmps17
        go_wp2
        go_ret2
        exact ⟨rfl, rfl⟩
      · have HV : Hid (boolV [x] = false ∧ boolE [x] = 6) := by
          refine ⟨?_, ?_⟩
          · unfold boolV; simp [h255]
          · unfold boolE; rw [if_neg (by simp [h0, h255])]
        have b0 : (x != 0) = true := by simpa using h0
        have b1 : (x != 255) = true := by simpa using h255
        clear hX uX h0 h255
        go_enter Tryd.func17, Tryd.ntmps17
        go_wp2
        go_ret2
        exact ⟨by rw [HV.out.1, HV.out.2]; rfl, rfl⟩
set_option maxHeartbeats 1000000 in
theorem RBool_any {w : World} (v : Value) (X : List Int) (hX : Sl .u8 w v X) (uX : U8s X) (hl : X.length ≤ 16384) :
    Calls Tryd.prog 18 #[v] w fun e w' => e = .returned (.tuple #[.bool (boolV X), .int .i64 (boolE X)]) ∧ w = w' := by
  rcases bool_cases hX uX with ⟨a, n, c, rfl, hn, h1⟩ | ⟨b, off, c, x, rfl, rfl, ⟨u0, u1⟩, hc⟩
  · have HV : Hid (boolV X = false ∧ boolE X = 6) := by
      refine ⟨?_, ?_⟩
      · unfold boolV; rw [hn]; simp [h1]
      · unfold boolE; rw [if_neg (by rw [hn]; omega)]
    have hb : ((n : Int) != 1) = true := by
      have : ¬ (n : Int) = 1 := by omega
      simpa using this
    clear hX uX hn h1
    go_enter Tryd.func18, Tryd.ntmps18
    go_wp2
    go_ret2
    exact ⟨by rw [HV.out.1, HV.out.2]; rfl, rfl⟩
  · by_cases h0 : x = 0
    · subst h0
      clear hX uX
      go_enter Tryd.func18, Tryd.ntmps18
      go_wp2
      go_ret2
      exact ⟨rfl, rfl⟩
    · by_cases h255 : x = 255
      · subst h255
        clear hX uX
        go_enter Tryd.func18, Tryd.ntmps18
        go_wp2
        go_ret2
        exact ⟨rfl, rfl⟩
      · have HV : Hid (boolV [x] = false ∧ boolE [x] = 6) := by
          refine ⟨?_, ?_⟩
          · unfold boolV; simp [h255]
          · unfold boolE; rw [if_neg (by simp [h0, h255])]
        have b0 : (x != 0) = true := by simpa using h0
        have b1 : (x != 255) = true := by simpa using h255
        clear hX uX h0 h255
        go_enter Tryd.func18, Tryd.ntmps18
        go_wp2
        go_ret2
        exact ⟨by rw [HV.out.1, HV.out.2]; rfl, rfl⟩
/-- Are these bytes a number's? -/
def intOk (X : List Int) : Bool := if X.length < 2 then decide (X.length = 1) else !((decide (X.getD 0 0 = 0) && decide (X.getD 1 0 < 128)) || (decide (X.getD 0 0 = 255) && decide (128 ≤ X.getD 1 0)))
theorem int_cases {w : World} {v : Value} {X : List Int} (hX : Sl .u8 w v X) (uX : U8s X) (hl : X.length ≤ 16384) : (∃ a n c, v = .slice a n c ∧ X.length = n ∧ n < 2) ∨ ∃ b off n c x y, v = .slice (some ⟨b, off, none⟩) n c ∧ X.length = n ∧ 2 ≤ n ∧ n ≤ c ∧ n ≤ 16384 ∧ X.getD 0 0 = x ∧ X.getD 1 0 = y ∧ U8 x ∧ U8 y ∧ w.cell? ⟨b, off, none⟩ = some (.int .u8 x) ∧ w.cell? ⟨b, off + 1, none⟩ = some (.int .u8 y) := by
  obtain ⟨a, c, rfl, hc, hx⟩ := hX
  by_cases h : X.length < 2
  · exact .inl ⟨a, _, c, rfl, rfl, h⟩
  · right
    rcases hx with hx | ⟨b, off, rfl, hb, hr⟩
    · rw [hx] at h; simp at h
    · exact ⟨b, off, _, c, _, _, rfl, rfl, by omega, hc, hl, rfl, rfl, uX.at 0, uX.at 1, hr 0 (by omega), hr 1 (by omega)⟩
set_option maxHeartbeats 2000000 in
theorem isInt_any {w : World} (v : Value) (X : List Int) (hX : Sl .u8 w v X) (uX : U8s X) (hl : X.length ≤ 16384) :
    Calls Tryd.prog 39 #[v] w fun e w' => e = .returned (.bool (intOk X)) ∧ w = w' := by
  rcases int_cases hX uX hl with ⟨a, n, c, rfl, hn, h1⟩ | ⟨b, off, n, c, x, y, rfl, hn, h2, hc, hn4, ex, ey, ⟨u0, u1⟩, ⟨y0, y1⟩, c0, c1⟩
  · have HV : Hid (intOk X = decide (n = 1)) := by
      show intOk X = _
      unfold intOk; rw [hn, if_pos h1]
    have hI : (n : Int) < 2 := by omega
    clear hX uX hn
    by_cases h : n = 1
    · subst h
      clear h1 hI
      go_enter Tryd.func39, Tryd.ntmps39
      go_wp2
      go_ret
      exact ⟨by rw [HV.out]; rfl, rfl⟩
    · have h0 : n = 0 := by omega
      subst h0
      clear h1 hI h
      go_enter Tryd.func39, Tryd.ntmps39
      go_wp2
      go_ret
      exact ⟨by rw [HV.out]; rfl, rfl⟩
  · have HV : Hid (intOk X = !((decide (x = 0) && decide (y < 128)) || (decide (x = 255) && decide (128 ≤ y)))) := by
      show intOk X = _
      unfold intOk; rw [hn, if_neg (by omega), ex, ey]
    have hI : (2 : Int) ≤ (n : Int) := by omega
    have hI1 : (1 : Int) < (n : Int) := by omega
    have hI2 : ¬ (n : Int) < 2 := by omega
    have hI3 : ((n : Int) == 1) = false := by simp; omega
    clear hX uX hn ex ey
    by_cases hy : y < 128
    · have q1 : decide (128 ≤ y) = false := by simp; omega
      have q2 : decide (y < 128) = true := by simp; omega
      have q3 : ¬ 128 ≤ y := by omega
      by_cases hx0 : x = 0
      · subst hx0
        have HW : Hid (intOk X = false) := by show _ = _; rw [HV.out]; simp; omega
        go_enter Tryd.func39, Tryd.ntmps39
        go_wp2
        all_goals go_ret
        all_goals exact ⟨by rw [HW.out]; rfl, rfl⟩
      by_cases hx1 : x = 255
      · subst hx1
        have HW : Hid (intOk X = true) := by show _ = _; rw [HV.out]; simp; omega
        clear hx0
        go_enter Tryd.func39, Tryd.ntmps39
        go_wp2
        all_goals go_ret
        all_goals exact ⟨by rw [HW.out]; rfl, rfl⟩
      · have HW : Hid (intOk X = true) := by show _ = _; rw [HV.out, decide_eq_false hx0, decide_eq_false hx1]; rfl
        have b0 : (x == 0) = false := by simpa using hx0
        have b1 : (x == 255) = false := by simpa using hx1
        clear hx0 hx1
        go_enter Tryd.func39, Tryd.ntmps39
        go_wp2
        all_goals go_ret
        all_goals exact ⟨by rw [HW.out]; rfl, rfl⟩
    · have q1 : decide (128 ≤ y) = true := by simp; omega
      have q2 : decide (y < 128) = false := by simp; omega
      have q3 : 128 ≤ y := by omega
      by_cases hx0 : x = 0
      · subst hx0
        have HW : Hid (intOk X = true) := by show _ = _; rw [HV.out]; simp; omega
        go_enter Tryd.func39, Tryd.ntmps39
        go_wp2
        all_goals go_ret
        all_goals exact ⟨by rw [HW.out]; rfl, rfl⟩
      by_cases hx1 : x = 255
      · subst hx1
        have HW : Hid (intOk X = false) := by show _ = _; rw [HV.out]; simp; omega
        clear hx0
        go_enter Tryd.func39, Tryd.ntmps39
        go_wp2
        all_goals go_ret
        all_goals exact ⟨by rw [HW.out]; rfl, rfl⟩
      · have HW : Hid (intOk X = true) := by show _ = _; rw [HV.out, decide_eq_false hx0, decide_eq_false hx1]; rfl
        have b0 : (x == 0) = false := by simpa using hx0
        have b1 : (x == 255) = false := by simpa using hx1
        clear hx0 hx1
        go_enter Tryd.func39, Tryd.ntmps39
        go_wp2
        all_goals go_ret
        all_goals exact ⟨by rw [HW.out]; rfl, rfl⟩
set_option maxHeartbeats 2000000 in
theorem whole_any {w : World} (v : Value) (X : List Int) (hX : Sl .u8 w v X) (uX : U8s X) (hl : X.length ≤ 16384) :
    Calls Tryd.prog 40 #[v] w fun e w' => e = .returned (.bool (intOk X)) ∧ w = w' := by
  rcases int_cases hX uX hl with ⟨a, n, c, rfl, hn, h1⟩ | ⟨b, off, n, c, x, y, rfl, hn, h2, hc, hn4, ex, ey, ⟨u0, u1⟩, ⟨y0, y1⟩, c0, c1⟩
  · have HV : Hid (intOk X = decide (n = 1)) := by
      show intOk X = _
      unfold intOk; rw [hn, if_pos h1]
    have hI : (n : Int) < 2 := by omega
    clear hX uX hn
    by_cases h : n = 1
    · subst h
      clear h1 hI
      go_enter Tryd.func40, Tryd.ntmps40
      go_wp2
      go_ret
      exact ⟨by rw [HV.out]; rfl, rfl⟩
    · have h0 : n = 0 := by omega
      subst h0
      clear h1 hI h
      go_enter Tryd.func40, Tryd.ntmps40
      go_wp2
      go_ret
      exact ⟨by rw [HV.out]; rfl, rfl⟩
  · have HV : Hid (intOk X = !((decide (x = 0) && decide (y < 128)) || (decide (x = 255) && decide (128 ≤ y)))) := by
      show intOk X = _
      unfold intOk; rw [hn, if_neg (by omega), ex, ey]
    have hI : (2 : Int) ≤ (n : Int) := by omega
    have hI1 : (1 : Int) < (n : Int) := by omega
    have hI2 : ¬ (n : Int) < 2 := by omega
    have hI3 : ((n : Int) == 1) = false := by simp; omega
    clear hX uX hn ex ey
    by_cases hy : y < 128
    · have q1 : decide (128 ≤ y) = false := by simp; omega
      have q2 : decide (y < 128) = true := by simp; omega
      have q3 : ¬ 128 ≤ y := by omega
      by_cases hx0 : x = 0
      · subst hx0
        have HW : Hid (intOk X = false) := by show _ = _; rw [HV.out]; simp; omega
        go_enter Tryd.func40, Tryd.ntmps40
        go_wp2
        all_goals go_ret
        all_goals exact ⟨by rw [HW.out]; rfl, rfl⟩
      by_cases hx1 : x = 255
      · subst hx1
        have HW : Hid (intOk X = true) := by show _ = _; rw [HV.out]; simp; omega
        clear hx0
        go_enter Tryd.func40, Tryd.ntmps40
        go_wp2
        all_goals go_ret
        all_goals exact ⟨by rw [HW.out]; rfl, rfl⟩
      · have HW : Hid (intOk X = true) := by show _ = _; rw [HV.out, decide_eq_false hx0, decide_eq_false hx1]; rfl
        have b0 : (x == 0) = false := by simpa using hx0
        have b1 : (x == 255) = false := by simpa using hx1
        clear hx0 hx1
        go_enter Tryd.func40, Tryd.ntmps40
        go_wp2
        all_goals go_ret
        all_goals exact ⟨by rw [HW.out]; rfl, rfl⟩
    · have q1 : decide (128 ≤ y) = true := by simp; omega
      have q2 : decide (y < 128) = false := by simp; omega
      have q3 : 128 ≤ y := by omega
      by_cases hx0 : x = 0
      · subst hx0
        have HW : Hid (intOk X = true) := by show _ = _; rw [HV.out]; simp; omega
        go_enter Tryd.func40, Tryd.ntmps40
        go_wp2
        all_goals go_ret
        all_goals exact ⟨by rw [HW.out]; rfl, rfl⟩
      by_cases hx1 : x = 255
      · subst hx1
        have HW : Hid (intOk X = false) := by show _ = _; rw [HV.out]; simp; omega
        clear hx0
        go_enter Tryd.func40, Tryd.ntmps40
        go_wp2
        all_goals go_ret
        all_goals exact ⟨by rw [HW.out]; rfl, rfl⟩
      · have HW : Hid (intOk X = true) := by show _ = _; rw [HV.out, decide_eq_false hx0, decide_eq_false hx1]; rfl
        have b0 : (x == 0) = false := by simpa using hx0
        have b1 : (x == 255) = false := by simpa using hx1
        clear hx0 hx1
        go_enter Tryd.func40, Tryd.ntmps40
        go_wp2
        all_goals go_ret
        all_goals exact ⟨by rw [HW.out]; rfl, rfl⟩
end Go.Proofs.YtndcpjnfdgojkaaDoor
