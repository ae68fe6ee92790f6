/-
  Der: any bytes as a number that is not below 0.
-/
import Derived.Deep.RegionHeld3
import Derived.Test.YtedoghjefdkmaaaGreatK20
namespace Go.Proofs.YtedoghjefdkmaaaGreat
open Go.RowKit
def uintS (X : List Int) : List Int × Int := if intOk X = false then ([], 6) else if 128 ≤ X.getD 0 0 then ([], 40) else if X.getD 0 0 = 0 then fromS (X.drop 1) else fromS X
def UAns (X : List Int) (w w' : World) (e : Ending) : Prop := (∃ r, e = .returned (.tuple #[r, .int .i64 (uintS X).2]) ∧ Sl .u32 w' r (uintS X).1) ∧ Below w.heap.size w w'
theorem UAns.nil {X : List Int} {w : World} {n : Int} (h : uintS X = ([], n)) : UAns X w w (.returned (.tuple #[.slice none 0 0, .int .i64 n])) := by
  unfold UAns; rw [h]; exact ⟨⟨_, rfl, ⟨none, 0, rfl, Nat.le_refl _, .inl rfl⟩⟩, Below.refl _ _⟩
set_option maxRecDepth 20000 in
set_option maxHeartbeats 4000000 in
theorem Uint_any {w : World} (v : Value) (X : List Int) (hX : Sl .u8 w v X) (uX : U8s X) (hl : X.length ≤ 16384) :
    Calls Tryz.prog 122 #[v] w fun e w' => UAns X w w' e := by
  have HI : Hid (Calls Tryz.prog 146 #[v] w fun e w' => e = .returned (.bool (intOk X)) ∧ w = w') := isInt_any v X hX uX hl
  have HX : Hid (Sl .u8 w v X ∧ U8s X) := ⟨hX, uX⟩
  obtain ⟨a, c, rfl, hc, hx⟩ := hX
  obtain ⟨n, hn⟩ : ∃ n, X.length = n := ⟨_, rfl⟩
  rw [hn] at HI HX hc ⊢
  cases hok : intOk X with
  | false =>
    have HV : Hid (uintS X = ([], 6)) := by unfold uintS; rw [if_pos hok]; rfl
    rw [hok] at HI
    clear hx hok
    go_enter Tryz.func122, Tryz.ntmps122
    go_wp2_with fail
    refine HI.out.mono ?_
    rintro e w1 ⟨rfl, rfl⟩
    go_wp2
    go_ret2
    exact UAns.nil HV.out
  | true =>
    have hne := intOk_ne hok
    rw [hok] at HI
    rcases hx with hx | ⟨b, off, rfl, hb, hr⟩
    · rw [hx] at hne; simp at hne
    rw [hn] at hne
    have hneI : (1 : Int) ≤ (n : Int) := by omega
    have hneI2 : (0 : Int) < (n : Int) := by omega
    have hcI : (1 : Int) ≤ (c : Int) := by omega
    obtain ⟨x, hx⟩ : ∃ x, X.getD 0 0 = x := ⟨_, rfl⟩
    have cx : w.cell? ⟨b, off, none⟩ = some (.int .u8 x) := by have := hr 0 (by omega); rw [hx] at this; exact this
    have ux := uX.at 0
    rw [hx] at ux
    obtain ⟨x0, x1⟩ := ux
    by_cases h128 : 128 ≤ x
    · have HV : Hid (uintS X = ([], 40)) := by unfold uintS; rw [if_neg (by rw [hok]; simp), if_pos (by rw [hx]; exact h128)]; rfl
      clear hr hok hx
      go_enter Tryz.func122, Tryz.ntmps122
      go_wp2_with fail
      refine HI.out.mono ?_
      rintro e w1 ⟨rfl, rfl⟩
      go_wp2
      go_ret2
      exact UAns.nil HV.out
    by_cases h0 : x = 0
    · have HV : Hid (uintS X = fromS (X.drop 1)) := by unfold uintS; rw [if_neg (by rw [hok]; simp), if_neg (by rw [hx]; exact h128), if_pos (by rw [hx]; exact h0)]; rfl
      obtain ⟨ba, hba⟩ : ∃ ba : Option Addr, (if c = 1 then some ⟨b, off, none⟩ else some ⟨b, off + 1, none⟩) = ba := ⟨_, rfl⟩
      obtain ⟨n2, hn2⟩ : ∃ n2, n - 1 = n2 := ⟨_, rfl⟩
      obtain ⟨c2, hc2⟩ : ∃ c2, c - 1 = c2 := ⟨_, rfl⟩
      have HS : Hid (Sl .u8 w (.slice ba n2 c2) (X.drop 1)) := by
        refine ⟨ba, c2, by rw [List.length_drop, hn, hn2], by rw [List.length_drop, hn]; omega, ?_⟩
        by_cases hn1 : n = 1
        · left; exact List.eq_nil_of_length_eq_zero (by rw [List.length_drop]; omega)
        · right
          refine ⟨b, off + 1, by rw [← hba, if_neg (by omega)], hb, fun i hi => ?_⟩
          rw [List.length_drop] at hi
          have := hr (1 + i) (by omega)
          rw [show off + (1 + i) = off + 1 + i by omega] at this
          rw [this, List.getD_eq_getElem?_getD, List.getD_eq_getElem?_getD, List.getElem?_drop]
      obtain ⟨Z, hZ⟩ : ∃ Z, X.drop 1 = Z := ⟨_, rfl⟩
      have HZ : Hid (U8s Z) := fun y hy => HX.out.2 y (by rw [← hZ] at hy; exact List.mem_of_mem_drop hy)
      rw [hZ] at HS HV
      subst h0
      clear hr hok hx h128 hZ
      go_enter Tryz.func122, Tryz.ntmps122
      go_wp2_with fail
      refine HI.out.mono ?_
      rintro e w1 ⟨rfl, rfl⟩
      go_wp2_with fail
      refine (FromBytes_any Z _ w HS.out HZ.out).mono ?_
      rintro e w2 ⟨⟨r, rfl, hs⟩, hb2⟩
      have H2 : Hid (Sl .u32 w2 r (fromS Z).1 ∧ Below w.heap.size w w2) := ⟨hs.sl, hb2⟩
      clear hs hb2
      go_wp2
      go_ret2
      refine ⟨⟨r, ?_, ?_⟩, H2.out.2⟩
      · rw [HV.out]; rfl
      · rw [HV.out]; exact H2.out.1
    · have HV : Hid (uintS X = fromS X) := by unfold uintS; rw [if_neg (by rw [hok]; simp), if_neg (by rw [hx]; exact h128), if_neg (by rw [hx]; exact h0)]; rfl
      have b0 : (x == 0) = false := by simpa using h0
      clear hr hok hx h0
      go_enter Tryz.func122, Tryz.ntmps122
      go_wp2_with fail
      refine HI.out.mono ?_
      rintro e w1 ⟨rfl, rfl⟩
      go_wp2_with fail
      refine (FromBytes_any X _ w HX.out.1 HX.out.2).mono ?_
      rintro e w2 ⟨⟨r, rfl, hs⟩, hb2⟩
      have H2 : Hid (Sl .u32 w2 r (fromS X).1 ∧ Below w.heap.size w w2) := ⟨hs.sl, hb2⟩
      clear hs hb2
      go_wp2
      go_ret2
      refine ⟨⟨r, ?_, ?_⟩, H2.out.2⟩
      · rw [HV.out]; rfl
      · rw [HV.out]; exact H2.out.1
set_option maxRecDepth 20000 in
set_option maxHeartbeats 4000000 in
theorem RUint_any {w : World} (v : Value) (X : List Int) (hX : Sl .u8 w v X) (uX : U8s X) (hl : X.length ≤ 16384) :
    Calls Tryz.prog 80 #[v] w fun e w' => UAns X w w' e := by
  have HI : Hid (Calls Tryz.prog 117 #[v] w fun e w' => e = .returned (.bool (intOk X)) ∧ w = w') := whole_any v X hX uX hl
  have HX : Hid (Sl .u8 w v X ∧ U8s X) := ⟨hX, uX⟩
  obtain ⟨a, c, rfl, hc, hx⟩ := hX
  obtain ⟨n, hn⟩ : ∃ n, X.length = n := ⟨_, rfl⟩
  rw [hn] at HI HX hc ⊢
  cases hok : intOk X with
  | false =>
    have HV : Hid (uintS X = ([], 6)) := by unfold uintS; rw [if_pos hok]; rfl
    rw [hok] at HI
    clear hx hok
    go_enter Tryz.func80, Tryz.ntmps80
    go_wp2_with fail
    refine HI.out.mono ?_
    rintro e w1 ⟨rfl, rfl⟩
    go_wp2
    go_ret2
    exact UAns.nil HV.out
  | true =>
    have hne := intOk_ne hok
    rw [hok] at HI
    rcases hx with hx | ⟨b, off, rfl, hb, hr⟩
    · rw [hx] at hne; simp at hne
    rw [hn] at hne
    have hneI : (1 : Int) ≤ (n : Int) := by omega
    have hneI2 : (0 : Int) < (n : Int) := by omega
    have hcI : (1 : Int) ≤ (c : Int) := by omega
    obtain ⟨x, hx⟩ : ∃ x, X.getD 0 0 = x := ⟨_, rfl⟩
    have cx : w.cell? ⟨b, off, none⟩ = some (.int .u8 x) := by have := hr 0 (by omega); rw [hx] at this; exact this
    have ux := uX.at 0
    rw [hx] at ux
    obtain ⟨x0, x1⟩ := ux
    by_cases h128 : 128 ≤ x
    · have HV : Hid (uintS X = ([], 40)) := by unfold uintS; rw [if_neg (by rw [hok]; simp), if_pos (by rw [hx]; exact h128)]; rfl
      clear hr hok hx
      go_enter Tryz.func80, Tryz.ntmps80
      go_wp2_with fail
      refine HI.out.mono ?_
      rintro e w1 ⟨rfl, rfl⟩
      go_wp2
      go_ret2
      exact UAns.nil HV.out
    by_cases h0 : x = 0
    · have HV : Hid (uintS X = fromS (X.drop 1)) := by unfold uintS; rw [if_neg (by rw [hok]; simp), if_neg (by rw [hx]; exact h128), if_pos (by rw [hx]; exact h0)]; rfl
      obtain ⟨ba, hba⟩ : ∃ ba : Option Addr, (if c = 1 then some ⟨b, off, none⟩ else some ⟨b, off + 1, none⟩) = ba := ⟨_, rfl⟩
      obtain ⟨n2, hn2⟩ : ∃ n2, n - 1 = n2 := ⟨_, rfl⟩
      obtain ⟨c2, hc2⟩ : ∃ c2, c - 1 = c2 := ⟨_, rfl⟩
      have HS : Hid (Sl .u8 w (.slice ba n2 c2) (X.drop 1)) := by
        refine ⟨ba, c2, by rw [List.length_drop, hn, hn2], by rw [List.length_drop, hn]; omega, ?_⟩
        by_cases hn1 : n = 1
        · left; exact List.eq_nil_of_length_eq_zero (by rw [List.length_drop]; omega)
        · right
          refine ⟨b, off + 1, by rw [← hba, if_neg (by omega)], hb, fun i hi => ?_⟩
          rw [List.length_drop] at hi
          have := hr (1 + i) (by omega)
          rw [show off + (1 + i) = off + 1 + i by omega] at this
          rw [this, List.getD_eq_getElem?_getD, List.getD_eq_getElem?_getD, List.getElem?_drop]
      obtain ⟨Z, hZ⟩ : ∃ Z, X.drop 1 = Z := ⟨_, rfl⟩
      have HZ : Hid (U8s Z) := fun y hy => HX.out.2 y (by rw [← hZ] at hy; exact List.mem_of_mem_drop hy)
      rw [hZ] at HS HV
      subst h0
      clear hr hok hx h128 hZ
      go_enter Tryz.func80, Tryz.ntmps80
      go_wp2_with fail
      refine HI.out.mono ?_
      rintro e w1 ⟨rfl, rfl⟩
      go_wp2_with fail
      refine (RFromBytes_any Z _ w HS.out HZ.out).mono ?_
      rintro e w2 ⟨⟨r, rfl, hs⟩, hb2⟩
      have H2 : Hid (Sl .u32 w2 r (fromS Z).1 ∧ Below w.heap.size w w2) := ⟨hs, hb2⟩
      clear hs hb2
      go_wp2
      go_ret2
      refine ⟨⟨r, ?_, ?_⟩, H2.out.2⟩
      · rw [HV.out]; rfl
      · rw [HV.out]; exact H2.out.1
    · have HV : Hid (uintS X = fromS X) := by unfold uintS; rw [if_neg (by rw [hok]; simp), if_neg (by rw [hx]; exact h128), if_neg (by rw [hx]; exact h0)]; rfl
      have b0 : (x == 0) = false := by simpa using h0
      clear hr hok hx h0
      go_enter Tryz.func80, Tryz.ntmps80
      go_wp2_with fail
      refine HI.out.mono ?_
      rintro e w1 ⟨rfl, rfl⟩
      go_wp2_with fail
      refine (RFromBytes_any X _ w HX.out.1 HX.out.2).mono ?_
      rintro e w2 ⟨⟨r, rfl, hs⟩, hb2⟩
      have H2 : Hid (Sl .u32 w2 r (fromS X).1 ∧ Below w.heap.size w w2) := ⟨hs, hb2⟩
      clear hs hb2
      go_wp2
      go_ret2
      refine ⟨⟨r, ?_, ?_⟩, H2.out.2⟩
      · rw [HV.out]; rfl
      · rw [HV.out]; exact H2.out.1
end Go.Proofs.YtedoghjefdkmaaaGreat
/-
  Ecdsa: a signature's bytes as two numbers: the inner functions.
-/
namespace Go.Proofs.YtedoghjefdkmaaaGreat
open Go.RowKit
theorem spl_u8 {M : List Int} (hM : U8s M) : ∀ f p L, M.length - p = f → (∀ y ∈ L, y.d.length ≤ M.length ∧ U8s y.d) → ∀ L', spl M p L = .ok L' → ∀ y ∈ L', y.d.length ≤ M.length ∧ U8s y.d := by
  intro f
  induction f using Nat.strongRecOn with
  | _ f ih =>
    intro p L hf hy L' h
    by_cases hp : p < M.length
    · by_cases hL2 : L.length < 65536
      · cases hE : elemS M p with
        | bad e' a' => rw [spl_bad hp hL2 hE] at h; cases h
        | ok t j E =>
          have := elemS_ok hM hp hE
          rw [spl_ok hM hp hL2 hE] at h
          refine ih (M.length - E) (by omega) E _ rfl ?_ L' h
          intro y hy'
          rcases List.mem_append.1 hy' with hy' | hy'
          · exact hy y hy'
          · rw [List.mem_singleton] at hy'
            subst hy'
            refine ⟨?_, ?_⟩
            · show ((M.drop j).take (E - j)).length ≤ _; rw [List.length_take, List.length_drop]; omega
            · intro z hz; exact hM z (List.mem_of_mem_drop (List.mem_of_mem_take hz))
      · rw [spl_many hp (by omega)] at h; cases h
    · rw [spl_end (by omega)] at h; cases h; exact hy
theorem splitS_u8 {M : List Int} (hM : U8s M) {L : List El} (h : splitS M = .ok L) : ∀ y ∈ L, y.d.length ≤ M.length ∧ U8s y.d := by
  unfold splitS at h
  split at h
  · cases h
  · exact spl_u8 hM _ 0 [] rfl (by simp) L h
theorem oneS_u8 {M : List Int} (hM : U8s M) : (oneS (splitS M)).1.d.length ≤ M.length ∧ U8s (oneS (splitS M)).1.d := by
  cases hS : splitS M with
  | bad e a => exact ⟨by simp [oneS, noEl], by simp [oneS, noEl, U8s]⟩
  | ok L =>
    have h := splitS_u8 hM hS
    cases L with
    | nil => exact ⟨by simp [oneS, noEl], by simp [oneS, noEl, U8s]⟩
    | cons x L =>
      cases L with
      | nil => exact h x (by simp)
      | cons y L => exact ⟨by simp [oneS, noEl], by simp [oneS, noEl, U8s]⟩
def kindB (cl tg : Int) (co : Bool) (t : Int) (c : Bool) : Bool := cl == 0 && (tg == t && co == c)
set_option maxRecDepth 20000 in
theorem isKind_any {w : World} (cl tg : Int) (co : Bool) (a1 : Option Addr) (n1 c1 : Nat) (a2 : Option Addr) (n2 c2 : Nat) (t : Int) (c : Bool) :
    Calls Tryz.prog 94 #[.agg #[.int .i64 cl, .int .i64 tg, .bool co, .slice a1 n1 c1, .slice a2 n2 c2], .int .i64 t, .bool c] w fun e w' => e = .returned (.bool (kindB cl tg co t c)) ∧ Below w.heap.size w w' := by
  have hq : ∀ (w : World) (x y : Bool), (binOp .eql 4 (.bool x) (.bool y)).run Tryz.prog w = .ok (.bool (x == y)) w := fun _ _ _ => by rfl
  cases h1 : cl == 0 with
  | false =>
    go_enter Tryz.func94, Tryz.ntmps94
    go_wp2
    go_ret
    exact ⟨by simp [kindB, h1], al1 _⟩
  | true =>
    cases h2 : tg == t with
    | false =>
      go_enter Tryz.func94, Tryz.ntmps94
      go_wp2
      go_ret
      exact ⟨by simp [kindB, h1, h2], al1 _⟩
    | true =>
      go_enter Tryz.func94, Tryz.ntmps94
      go_wp2
      go_ret
      exact ⟨by simp [kindB, h1, h2], al1 _⟩
/-- What gives up, or goes on. -/
def GiveUp (n : Int) (e : Ending) (P : Prop) : Prop := if n = 0 then P else e = .panicked [{ v := refu n, recovered := false }]
theorem GiveUp.no {n : Int} {P : Prop} (h : n ≠ 0) : GiveUp n (.panicked [{ v := refu n, recovered := false }]) P := by unfold GiveUp; rw [if_neg h]
theorem GiveUp.yes {n : Int} {e : Ending} {P : Prop} (h : n = 0) (hP : P) : GiveUp n e P := by unfold GiveUp; rw [if_pos h]; exact hP
def NumAns (X : List Int) (w w' : World) (e : Ending) : Prop := GiveUp (uintS X).2 e (∃ r, e = .returned r ∧ Sl .u32 w' r (uintS X).1) ∧ Below w.heap.size w w'
set_option maxRecDepth 20000 in
theorem readNumber_any {w : World} (v : Value) (X : List Int) (hX : Sl .u8 w v X) (uX : U8s X) (hl : X.length ≤ 16384) :
    Calls Tryz.prog 96 #[v] w fun e w' => NumAns X w w' e := by
  have HX : Hid (Calls Tryz.prog 122 #[v] w fun e w' => UAns X w w' e) := Uint_any v X hX uX hl
  clear hX uX hl
  obtain ⟨U, hU⟩ : ∃ U, uintS X = U := ⟨_, rfl⟩
  have HU : Hid (uintS X = U) := hU
  clear hU
  go_enter Tryz.func96, Tryz.ntmps96
  go_wp2_with fail
  refine HX.out.mono ?_
  rintro e w1 ⟨⟨r, rfl, hr⟩, hb⟩
  have HR : Hid (Sl .u32 w1 r U.1 ∧ Below w.heap.size w w1) := ⟨by rw [← HU.out]; exact hr, hb⟩
  rw [HU.out]
  clear hr hb
  obtain ⟨UL, ue⟩ := U
  simp only []
  by_cases h0 : ue = 0
  · subst h0
    go_wp2_with fail
    refine (demand_yes 0).mono ?_
    rintro e w2 ⟨rfl, rfl⟩
    go_wp2
    go_ret
    unfold NumAns
    rw [HU.out]
    exact ⟨GiveUp.yes rfl ⟨_, rfl, HR.out.1⟩, HR.out.2⟩
  · have hq : (ue == 0) = false := by simpa using h0
    go_wp2_with fail
    refine (demand_no ue).mono ?_
    rintro e w2 ⟨rfl, rfl⟩
    go_wp2
    refine ⟨rfl, ?_⟩
    unfold NumAns
    rw [HU.out]
    exact ⟨GiveUp.no h0, HR.out.2⟩
end Go.Proofs.YtedoghjefdkmaaaGreat
/-
  Ecdsa: a signature's bytes as two numbers: read.
-/
namespace Go.Proofs.YtedoghjefdkmaaaGreat
open Go.RowKit
/-- What a signature's bytes tell. -/
def ecP (x y : El) : List Int × List Int × Int :=
  if (kindB x.cl x.tg x.co 2 false && kindB y.cl y.tg y.co 2 false) = false then ([], [], 30) else if (uintS x.d).2 ≠ 0 then ([], [], (uintS x.d).2) else if (uintS y.d).2 ≠ 0 then ([], [], (uintS y.d).2) else ((uintS x.d).1, (uintS y.d).1, 0)
def ecL : Sp → List Int × List Int × Int
  | .bad e _ => ([], [], e)
  | .ok [x, y] => ecP x y
  | .ok _ => ([], [], 30)
def ecO (o : El × Int) : List Int × List Int × Int := if o.2 ≠ 0 then ([], [], o.2) else if kindB o.1.cl o.1.tg o.1.co 16 true = false then ([], [], 30) else ecL (splitS o.1.d)
def ecS (M : List Int) : List Int × List Int × Int := ecO (oneS (splitS M))
def ReadAns (M : List Int) (w w' : World) (e : Ending) : Prop := GiveUp (ecS M).2.2 e (∃ r s, e = .returned (.tuple #[r, s]) ∧ Sl .u32 w' r (ecS M).1 ∧ Sl .u32 w' s (ecS M).2.1) ∧ Below w.heap.size w w'
theorem ReadAns.no {M : List Int} {w w' : World} {n : Int} (h : ecS M = ([], [], n)) (hn : n ≠ 0) (hb : Below w.heap.size w w') : ReadAns M w w' (.panicked [{ v := refu n, recovered := false }]) := by
  unfold ReadAns; rw [h]; exact ⟨GiveUp.no hn, hb⟩
set_option maxRecDepth 20000 in
set_option maxHeartbeats 4000000 in
theorem read_any {w : World} (v : Value) (M : List Int) (hv : Sl .u8 w v M) (uM : U8s M) (hl : M.length ≤ 16384) :
    Calls Tryz.prog 51 #[v] w fun e w' => ReadAns M w w' e := by
  have HO : Hid (Calls Tryz.prog 93 #[v] w fun e w' => OneOut w.heap.size w' e (oneS (splitS M)) ∧ Below w.heap.size w w') := OneS_any v M hv uM (by omega)
  have HU := oneS_u8 uM
  obtain ⟨⟨⟨xc, xt, xo, xd, xr⟩, oe⟩, ho⟩ : ∃ O, oneS (splitS M) = O := ⟨_, rfl⟩
  have HE : Hid (ecS M = ecO (⟨xc, xt, xo, xd, xr⟩, oe)) := by show ecO _ = _; rw [ho]
  rw [ho] at HO HU
  have HU2 : Hid (xd.length ≤ 16384 ∧ U8s xd) := ⟨Nat.le_trans HU.1 hl, HU.2⟩
  clear HU
  clear ho hv uM hl
  go_enter Tryz.func51, Tryz.ntmps51
  go_wp2_with fail
  refine HO.out.mono ?_
  rintro e w1 ⟨⟨a1, n1, c1, a2, n2, c2, rfl, hr1, hr2⟩, hb1⟩
  simp only [] at hr1
  have H1 : Hid (Sl .u8 w1 (.slice a1 n1 c1) xd ∧ Below w.heap.size w w1) := ⟨hr1.sl, hb1⟩
  clear hr1 hr2 hb1 HO
  by_cases h0 : oe = 0
  · subst h0
    go_wp2_with fail
    refine (demand_yes 0).mono ?_
    rintro e w2 ⟨rfl, rfl⟩
    replace HE : Hid (ecS M = if kindB xc xt xo 16 true = false then ([], [], 30) else ecL (splitS xd)) := HE.out.trans (if_neg (by simp))
    cases hk : kindB xc xt xo 16 true with
    | false =>
      have HE2 : Hid (ecS M = ([], [], 30)) := HE.out.trans (if_pos hk)
      have HK : Hid (∀ W : World, Calls Tryz.prog 94 #[.agg #[.int .i64 xc, .int .i64 xt, .bool xo, .slice a1 n1 c1, .slice a2 n2 c2], .int .i64 16, .bool true] W fun e w' => e = .returned (.bool false) ∧ Below W.heap.size W w') := fun W => (isKind_any xc xt xo a1 n1 c1 a2 n2 c2 16 true).mono (by rw [hk]; exact fun _ _ h => h)
      clear hk HE
      go_wp2_with fail
      refine (HK.out _).mono ?_
      rintro e w3 ⟨rfl, hb3⟩
      have H3 : Hid (Below w.heap.size w w3) := below_via (below_via H1.out.2 (al1 _) (Nat.le_refl _)) hb3 (Nat.le_refl _)
      clear hb3
      go_wp2_with fail
      refine (demand_no 30).mono ?_
      rintro e w4 ⟨rfl, rfl⟩
      go_wp2
      exact ⟨rfl, ReadAns.no HE2.out (by decide) H3.out⟩
    | true =>
      have HE2 : Hid (ecS M = ecL (splitS xd)) := HE.out.trans (if_neg (by rw [hk]; decide))
      have HK : Hid (∀ W : World, Calls Tryz.prog 94 #[.agg #[.int .i64 xc, .int .i64 xt, .bool xo, .slice a1 n1 c1, .slice a2 n2 c2], .int .i64 16, .bool true] W fun e w' => e = .returned (.bool true) ∧ Below W.heap.size W w') := fun W => (isKind_any xc xt xo a1 n1 c1 a2 n2 c2 16 true).mono (by rw [hk]; exact fun _ _ h => h)
      clear hk HE
      go_wp2_with fail
      refine (HK.out _).mono ?_
      rintro e w3 ⟨rfl, hb3⟩
      have H3 : Hid (Below w1.heap.size w1 w3) := below_via (al1 _) hb3 (Nat.le_refl _)
      have c3 : w3.cell? ⟨w1.heap.size, 3, none⟩ = some (.slice a1 n1 c1) := (below_blk hb3 (by simp) (Blk.new 105 w1 [.int .i64 xc, .int .i64 xt, .bool xo, .slice a1 n1 c1, .slice a2 n2 c2])).cell 3
      clear hb3
      go_wp2_with fail
      refine (demand_yes 30).mono ?_
      rintro e w4 ⟨rfl, rfl⟩
      go_wp2_with fail
      refine (SplitS_any (.slice a1 n1 c1) xd (below_sl H3.out H1.out.1) HU2.out.2 (by have := HU2.out.1; omega)).mono ?_
      rintro e w4 ⟨ha, hb4⟩
      have H4 : Hid (Below w.heap.size w w4) := below_via (below_via H1.out.2 H3.out (Nat.le_refl _)) hb4 (Nat.le_refl _)
      unfold SplitAns at ha
      obtain ⟨S, hS⟩ : ∃ S, splitS xd = S := ⟨_, rfl⟩
      rw [hS] at ha
      have HS : Hid (splitS xd = S) := hS
      rw [hS] at HE2
      clear hb4 hS c3
      cases S with
      | bad er a =>
        have hne0 := splitS_err HU2.out.2 HS.out
        have hne : (er == 0) = false := by simpa using hne0
        obtain rfl : e = .returned (.tuple #[.slice none 0 0, .int .i64 er, .int .i64 a]) := ha
        go_wp2_with fail
        refine (demand_no er).mono ?_
        rintro e w5 ⟨rfl, rfl⟩
        go_wp2
        exact ⟨rfl, ReadAns.no HE2.out hne0 H4.out⟩
      | ok L =>
        obtain ⟨v2, rfl, ht⟩ : ∃ v, e = .returned (.tuple #[v, .int .i64 0, .int .i64 xd.length]) ∧ Tlvs w3.heap.size w4 v L := ha
        have HL := splitS_u8 HU2.out.2 HS.out
        obtain ⟨Y, hYL, hm, hrows, hap⟩ := ht
        obtain ⟨al, cl, hv2⟩ := hm.ne
        obtain ⟨k, hk⟩ : ∃ k, Y.length = k := ⟨_, rfl⟩
        rw [hk] at hv2
        subst hv2
        subst hYL
        by_cases hk2 : k = 2
        · subst hk2
          obtain ⟨y1, y2, rfl⟩ : ∃ y1 y2, Y = [y1, y2] := by
            match Y, hk with
            | [y1, y2], _ => exact ⟨y1, y2, rfl⟩
          clear hk hap
          obtain ⟨⟨xc1, xt1, xo1, xd1, xr1⟩, yd1, yr1⟩ := y1
          obtain ⟨⟨xc2, xt2, xo2, xd2, xr2⟩, yd2, yr2⟩ := y2
          have hr1 := hrows (⟨xc1, xt1, xo1, xd1, xr1⟩, yd1, yr1) (by simp)
          have hr2 := hrows (⟨xc2, xt2, xo2, xd2, xr2⟩, yd2, yr2) (by simp)
          have hu1 := HL ⟨xc1, xt1, xo1, xd1, xr1⟩ (by simp)
          have hu2 := HL ⟨xc2, xt2, xo2, xd2, xr2⟩ (by simp)
          obtain ⟨da1, dc1, hd1⟩ := hr1.1.ne
          obtain ⟨ra1, rc1, hd2⟩ := hr1.2.ne
          obtain ⟨da2, dc2, hd3⟩ := hr2.1.ne
          obtain ⟨ra2, rc2, hd4⟩ := hr2.2.ne
          obtain ⟨dn1, hn1⟩ : ∃ n1, xd1.length = n1 := ⟨_, rfl⟩
          obtain ⟨rn1, hn2⟩ : ∃ n1, xr1.length = n1 := ⟨_, rfl⟩
          obtain ⟨dn2, hn3⟩ : ∃ n1, xd2.length = n1 := ⟨_, rfl⟩
          obtain ⟨rn2, hn4⟩ : ∃ n1, xr2.length = n1 := ⟨_, rfl⟩
          simp only [] at hd1 hd2 hd3 hd4
          rw [hn1] at hd1
          rw [hn2] at hd2
          rw [hn3] at hd3
          rw [hn4] at hd4
          subst hd1 hd2 hd3 hd4
          clear hn1 hn2 hn3 hn4
          obtain ⟨bl, cl2, hv, hc2, hbl, hbv, hcells⟩ := hm.at (by simp)
          simp only [Value.slice.injEq] at hv
          obtain ⟨rfl, h11, rfl⟩ := hv
          clear h11
          have e0 : w4.cell? ⟨bl, 0, none⟩ = some (.int .i64 xc1) := hcells 0 (by simp)
          have e1 : w4.cell? ⟨bl, 1, none⟩ = some (.int .i64 xt1) := hcells 1 (by simp)
          have e2 : w4.cell? ⟨bl, 2, none⟩ = some (.bool xo1) := hcells 2 (by simp)
          have e3 : w4.cell? ⟨bl, 3, none⟩ = some (.slice da1 dn1 dc1) := hcells 3 (by simp)
          have e4 : w4.cell? ⟨bl, 4, none⟩ = some (.slice ra1 rn1 rc1) := hcells 4 (by simp)
          have e5 : w4.cell? ⟨bl, 5, none⟩ = some (.int .i64 xc2) := hcells 5 (by simp)
          have e6 : w4.cell? ⟨bl, 6, none⟩ = some (.int .i64 xt2) := hcells 6 (by simp)
          have e7 : w4.cell? ⟨bl, 7, none⟩ = some (.bool xo2) := hcells 7 (by simp)
          have e8 : w4.cell? ⟨bl, 8, none⟩ = some (.slice da2 dn2 dc2) := hcells 8 (by simp)
          have e9 : w4.cell? ⟨bl, 9, none⟩ = some (.slice ra2 rn2 rc2) := hcells 9 (by simp)
          have hce : Hid (∀ W, Below w4.heap.size w4 W → W.cell? ⟨bl, 5, none⟩ = some (.int .i64 xc2) ∧ W.cell? ⟨bl, 6, none⟩ = some (.int .i64 xt2) ∧ W.cell? ⟨bl, 7, none⟩ = some (.bool xo2) ∧ W.cell? ⟨bl, 8, none⟩ = some (.slice da2 dn2 dc2) ∧ W.cell? ⟨bl, 9, none⟩ = some (.slice ra2 rn2 rc2) ∧ W.cell? ⟨bl, 3, none⟩ = some (.slice da1 dn1 dc1)) :=
            fun W hW => ⟨(hW.cell hbv).trans e5, (hW.cell hbv).trans e6, (hW.cell hbv).trans e7, (hW.cell hbv).trans e8, (hW.cell hbv).trans e9, (hW.cell hbv).trans e3⟩
          have HY : Hid (Sl .u8 w4 (.slice da1 dn1 dc1) xd1 ∧ U8s xd1 ∧ xd1.length ≤ 16384 ∧ Sl .u8 w4 (.slice da2 dn2 dc2) xd2 ∧ U8s xd2 ∧ xd2.length ≤ 16384) :=
            ⟨hr1.1.sl, hu1.2, Nat.le_trans hu1.1 HU2.out.1, hr2.1.sl, hu2.2, Nat.le_trans hu2.1 HU2.out.1⟩
          have HE3 : Hid (ecS M = ecP ⟨xc1, xt1, xo1, xd1, xr1⟩ ⟨xc2, xt2, xo2, xd2, xr2⟩) := HE2.out
          clear hm hrows HL HE2 hcells hr1 hr2 hu1 hu2 hbl e5 e6 e7 e8 e9
          have hcc : 2 ≤ cl := hc2
          go_wp2_with fail
          refine (demand_yes 0).mono ?_
          rintro e w5 ⟨rfl, rfl⟩
          obtain ⟨A1, hA1⟩ : ∃ A1, kindB xc1 xt1 xo1 2 false = A1 := ⟨_, rfl⟩
          obtain ⟨A2, hA2⟩ : ∃ A2, kindB xc2 xt2 xo2 2 false = A2 := ⟨_, rfl⟩
          have HK1 : Hid (∀ W : World, Calls Tryz.prog 94 #[.agg #[.int .i64 xc1, .int .i64 xt1, .bool xo1, .slice da1 dn1 dc1, .slice ra1 rn1 rc1], .int .i64 2, .bool false] W fun e w' => e = .returned (.bool A1) ∧ Below W.heap.size W w') := fun W => (isKind_any xc1 xt1 xo1 da1 dn1 dc1 ra1 rn1 rc1 2 false).mono (by rw [hA1]; exact fun _ _ h => h)
          have HK2 : Hid (∀ W : World, Calls Tryz.prog 94 #[.agg #[.int .i64 xc2, .int .i64 xt2, .bool xo2, .slice da2 dn2 dc2, .slice ra2 rn2 rc2], .int .i64 2, .bool false] W fun e w' => e = .returned (.bool A2) ∧ Below W.heap.size W w') := fun W => (isKind_any xc2 xt2 xo2 da2 dn2 dc2 ra2 rn2 rc2 2 false).mono (by rw [hA2]; exact fun _ _ h => h)
          go_wp2_with fail
          refine (HK1.out _).mono ?_
          rintro e w5 ⟨rfl, hb5⟩
          have H5 : Hid (Below w4.heap.size w4 w5) := hb5
          clear hb5
          cases A1 with
          | false =>
            have HE4 : Hid (ecS M = ([], [], 30)) := HE3.out.trans (if_pos (by show (kindB xc1 xt1 xo1 2 false && _) = false; rw [hA1]; rfl))
            clear hA1 hA2
            go_wp2_with fail
            refine (demand_no 30).mono ?_
            rintro e w6 ⟨rfl, rfl⟩
            go_wp2
            exact ⟨rfl, ReadAns.no HE4.out (by decide) (below_via H4.out H5.out (Nat.le_refl _))⟩
          | true =>
            obtain ⟨g5, g6, g7, g8, g9, g3⟩ := hce.out w5 H5.out
            go_wp2_with fail
            refine (HK2.out _).mono ?_
            rintro e w6 ⟨rfl, hb6⟩
            have H6 : Hid (Below w4.heap.size w4 w6) := below_via H5.out hb6 (Nat.le_refl _)
            clear hb6 g5 g6 g7 g8 g9 g3
            cases A2 with
            | false =>
              have HE4 : Hid (ecS M = ([], [], 30)) := HE3.out.trans (if_pos (by show (_ && kindB xc2 xt2 xo2 2 false) = false; rw [hA2]; simp))
              clear hA1 hA2
              go_wp2_with fail
              refine (demand_no 30).mono ?_
              rintro e w7 ⟨rfl, rfl⟩
              go_wp2
              exact ⟨rfl, ReadAns.no HE4.out (by decide) (below_via H4.out H6.out (Nat.le_refl _))⟩
            | true =>
              have HE4 : Hid (ecS M = if (uintS xd1).2 ≠ 0 then ([], [], (uintS xd1).2) else if (uintS xd2).2 ≠ 0 then ([], [], (uintS xd2).2) else ((uintS xd1).1, (uintS xd2).1, 0)) := HE3.out.trans (if_neg (by show ¬ (kindB xc1 xt1 xo1 2 false && kindB xc2 xt2 xo2 2 false) = false; rw [hA1, hA2]; decide))
              clear hA1 hA2 HK1 HK2 HE3
              go_wp2_with fail
              refine (demand_yes 30).mono ?_
              rintro e w7 ⟨rfl, rfl⟩
              have two : Hid (∀ W, Below w6.heap.size w6 W → W.cell? ⟨bl, 3, none⟩ = some (.slice da1 dn1 dc1) ∧ W.cell? ⟨bl, 8, none⟩ = some (.slice da2 dn2 dc2)) := fun W h => by
                obtain ⟨g5, g6, g7, g8, g9, g3⟩ := hce.out W (below_via H6.out h (Nat.le_refl _)); exact ⟨g3, g8⟩
              have HN1 : Hid (∀ W, Below w6.heap.size w6 W → Calls Tryz.prog 96 #[.slice da1 dn1 dc1] W fun e w' => NumAns xd1 W w' e) := fun W h => readNumber_any _ xd1 (below_sl (below_via H6.out h (Nat.le_refl _)) HY.out.1) HY.out.2.1 HY.out.2.2.1
              have HN2 : Hid (∀ W, Below w6.heap.size w6 W → Calls Tryz.prog 96 #[.slice da2 dn2 dc2] W fun e w' => NumAns xd2 W w' e) := fun W h => readNumber_any _ xd2 (below_sl (below_via H6.out h (Nat.le_refl _)) HY.out.2.2.2.1) HY.out.2.2.2.2.1 HY.out.2.2.2.2.2
              have H7 : Hid (Below w.heap.size w w6) := below_via H4.out H6.out (Nat.le_refl _)
              clear hce e0 e1 e2 e3 e4 H4 H5 H6 HY H1 HS
              obtain ⟨⟨L1, m1⟩, hU1⟩ : ∃ U, uintS xd1 = U := ⟨_, rfl⟩
              obtain ⟨⟨L2, m2⟩, hU2⟩ : ∃ U, uintS xd2 = U := ⟨_, rfl⟩
              unfold NumAns at HN1 HN2
              rw [hU1] at HN1
              rw [hU2] at HN2
              rw [hU1, hU2] at HE4
              clear hU1 hU2
              by_cases h1 : m1 = 0
              · subst h1
                replace HN1 : Hid (∀ W, Below w6.heap.size w6 W → Calls Tryz.prog 96 #[.slice da1 dn1 dc1] W fun e w' => (∃ r, e = .returned r ∧ Sl .u32 w' r L1) ∧ Below W.heap.size W w') := fun W h => (HN1.out W h).mono (fun e w' h => ⟨by have := h.1; unfold GiveUp at this; rw [if_pos rfl] at this; exact this, h.2⟩)
                replace HE4 : Hid (ecS M = if m2 ≠ 0 then ([], [], m2) else (L1, L2, 0)) := HE4.out.trans (if_neg (by simp))
                by_cases h2 : m2 = 0
                · subst h2
                  replace HN2 : Hid (∀ W, Below w6.heap.size w6 W → Calls Tryz.prog 96 #[.slice da2 dn2 dc2] W fun e w' => (∃ r, e = .returned r ∧ Sl .u32 w' r L2) ∧ Below W.heap.size W w') := fun W h => (HN2.out W h).mono (fun e w' h => ⟨by have := h.1; unfold GiveUp at this; rw [if_pos rfl] at this; exact this, h.2⟩)
                  replace HE4 : Hid (ecS M = (L1, L2, 0)) := HE4.out.trans (if_neg (by simp))
                  go_wp2_with fail
                  go_region_held3 (fun W => Below w6.heap.size w6 W ∧ W.cell? ⟨bl, 3, none⟩ = some (.slice da1 dn1 dc1) ∧ W.cell? ⟨bl, 8, none⟩ = some (.slice da2 dn2 dc2))
                    (first | assumption | exact (fun h => ⟨h, two.out _ h⟩) (Below.drew (Below.refl _ _)) | exact (fun h => ⟨h, two.out _ h⟩) (below_via (And.left (by assumption)) (by assumption) (Nat.le_refl _)))
                    (first
                    | (replace H8 := H8; go_at_call 96; refine (HN2.out _ H8.out.2).mono ?_; rintro e w9 ⟨⟨rs, rfl, hs⟩, hb9⟩; have H9 : Hid (Sl .u32 w9 rr L1 ∧ Sl .u32 w9 rs L2 ∧ Below w6.heap.size w6 w9) := ⟨below_sl hb9 H8.out.1, hs, below_via H8.out.2 hb9 (Nat.le_refl _)⟩; clear hs)
                    | (go_at_call 96; refine (HN1.out _ (And.left (by assumption))).mono ?_; rintro e w8 ⟨⟨rr, rfl, hr⟩, hb8⟩; have H8 : Hid (Sl .u32 w8 rr L1 ∧ Below w6.heap.size w6 w8) := ⟨hr, below_via (And.left (by assumption)) hb8 (Nat.le_refl _)⟩; clear hr))
                  go_wp2
                  go_ret2
                  unfold ReadAns
                  rw [HE4.out]
                  exact ⟨GiveUp.yes rfl ⟨_, _, rfl, H9.out.1, H9.out.2.1⟩, below_via H7.out H9.out.2.2 (Nat.le_refl _)⟩
                · replace HN2 : Hid (∀ W, Below w6.heap.size w6 W → Calls Tryz.prog 96 #[.slice da2 dn2 dc2] W fun e w' => e = .panicked [{ v := refu m2, recovered := false }] ∧ Below W.heap.size W w') := fun W h => (HN2.out W h).mono (fun e w' h => ⟨by have := h.1; unfold GiveUp at this; rw [if_neg h2] at this; exact this, h.2⟩)
                  replace HE4 : Hid (ecS M = ([], [], m2)) := HE4.out.trans (if_pos h2)
                  have q3 : w6.drew.cell? ⟨bl, 3, none⟩ = some (.slice da1 dn1 dc1) := (two.out w6 (Below.refl _ _)).1
                  have q8 : w6.drew.cell? ⟨bl, 8, none⟩ = some (.slice da2 dn2 dc2) := (two.out w6 (Below.refl _ _)).2
                  go_wp2_with fail
                  go_region_with (first
                    | (replace H8 := H8; go_at_call 96; refine (HN2.out _ H8.out).mono ?_; rintro e w9 ⟨rfl, hb9⟩; have H9 : Hid (Below w6.heap.size w6 w9) := below_via H8.out hb9 (Nat.le_refl _); clear hb9; refine (fun (_ : wpAny Tryz.prog .any #[] (fun _ _ _ => True) 0 #[] { tmps := #[], defers := [] } w9) => ⟨rfl, ReadAns.no HE4.out h2 (below_via H7.out H9.out (Nat.le_refl _))⟩) ?_)
                    | (go_at_call 96; refine (HN1.out _ (Below.drew (Below.refl _ _))).mono ?_; rintro e w8 ⟨⟨rr, rfl, hr⟩, hb8⟩; have H8 : Hid (Below w6.heap.size w6 w8) := below_via (Below.drew (Below.refl _ _)) hb8 (Nat.le_refl _); have q8' : w8.cell? ⟨bl, 8, none⟩ = some (.slice da2 dn2 dc2) := (two.out w8 H8.out).2; clear hr hb8))
                  all_goals trivial
              · replace HN1 : Hid (∀ W, Below w6.heap.size w6 W → Calls Tryz.prog 96 #[.slice da1 dn1 dc1] W fun e w' => e = .panicked [{ v := refu m1, recovered := false }] ∧ Below W.heap.size W w') := fun W h => (HN1.out W h).mono (fun e w' h => ⟨by have := h.1; unfold GiveUp at this; rw [if_neg h1] at this; exact this, h.2⟩)
                replace HE4 : Hid (ecS M = ([], [], m1)) := HE4.out.trans (if_pos h1)
                go_wp2_with fail
                have q3 : w6.drew.cell? ⟨bl, 3, none⟩ = some (.slice da1 dn1 dc1) := (two.out w6 (Below.refl _ _)).1
                have q8 : w6.drew.cell? ⟨bl, 8, none⟩ = some (.slice da2 dn2 dc2) := (two.out w6 (Below.refl _ _)).2
                go_region_with (go_at_call 96; refine (HN1.out _ (Below.drew (Below.refl _ _))).mono ?_; rintro e w8 ⟨rfl, hb8⟩; have H8 : Hid (Below w6.heap.size w6 w8) := below_via (Below.drew (Below.refl _ _)) hb8 (Nat.le_refl _); clear hb8; refine (fun (_ : wpAny Tryz.prog .any #[] (fun _ _ _ => True) 0 #[] { tmps := #[], defers := [] } w8) => ⟨rfl, ReadAns.no HE4.out h1 (below_via H7.out H8.out (Nat.le_refl _))⟩) ?_)
                all_goals trivial
        · have hq : ((k : Int) == 2) = false := by simp; omega
          have HE3 : Hid (ecS M = ([], [], 30)) := HE2.out.trans (by
            match Y, hk with
            | [], _ => rfl
            | [_], _ => rfl
            | [_, _], h => exact absurd h.symm hk2
            | _ :: _ :: _ :: _, _ => rfl)
          clear hm hrows hap HL HE2 hk
          go_wp2_with fail
          refine (demand_yes 0).mono ?_
          rintro e w5 ⟨rfl, rfl⟩
          go_wp2_with fail
          refine (demand_no 30).mono ?_
          rintro e w5 ⟨rfl, rfl⟩
          go_wp2
          exact ⟨rfl, ReadAns.no HE3.out (by decide) H4.out⟩
  · have hq : (oe == 0) = false := by simpa using h0
    replace HE : Hid (ecS M = ([], [], oe)) := HE.out.trans (if_pos h0)
    go_wp2_with fail
    refine (demand_no oe).mono ?_
    rintro e w2 ⟨rfl, rfl⟩
    go_wp2
    exact ⟨rfl, ReadAns.no HE.out h0 (below_via H1.out.2 (al1 _) (Nat.le_refl _))⟩
end Go.Proofs.YtedoghjefdkmaaaGreat
