/-
  Alg: ways to sign; named, readInt, readMask.
-/
import Derived.Test.YtillkhjihggcjaaGreatDoorK11
namespace Go.Proofs.YtillkhjihggcjaaGreatDoor
open Go.RowKit
set_option maxRecDepth 20000
/-- A way to sign. -/
structure Al where
  k : Int
  d : Int
  m : Int
  s : Int
def alC (a : Al) : List Value := [.int .i64 a.k, .int .i64 a.d, .int .i64 a.m, .int .i64 a.s]
def alZ : Al := ⟨0, 0, 0, 0⟩
def nmd (S : ByteArray) : Al := if (S.toList == [49, 46, 50, 46, 56, 52, 48, 46, 49, 49, 51, 53, 52, 57, 46, 49, 46, 49, 46, 49]) = true then ⟨1, 0, 0, 0⟩ else if (S.toList == [49, 46, 50, 46, 56, 52, 48, 46, 49, 49, 51, 53, 52, 57, 46, 49, 46, 49, 46, 53]) = true then ⟨1, 1, 0, 0⟩ else if (S.toList == [49, 46, 50, 46, 56, 52, 48, 46, 49, 49, 51, 53, 52, 57, 46, 49, 46, 49, 46, 49, 49]) = true then ⟨1, 2, 0, 0⟩ else if (S.toList == [49, 46, 50, 46, 56, 52, 48, 46, 49, 49, 51, 53, 52, 57, 46, 49, 46, 49, 46, 49, 50]) = true then ⟨1, 3, 0, 0⟩ else if (S.toList == [49, 46, 50, 46, 56, 52, 48, 46, 49, 49, 51, 53, 52, 57, 46, 49, 46, 49, 46, 49, 51]) = true then ⟨1, 4, 0, 0⟩ else if (S.toList == [49, 46, 50, 46, 56, 52, 48, 46, 49, 49, 51, 53, 52, 57, 46, 49, 46, 49, 46, 49, 48]) = true then ⟨2, 1, 1, 20⟩ else if (S.toList == [49, 46, 50, 46, 56, 52, 48, 46, 49, 48, 48, 52, 53, 46, 52, 46, 49]) = true then ⟨3, 1, 0, 0⟩ else if (S.toList == [49, 46, 50, 46, 56, 52, 48, 46, 49, 48, 48, 52, 53, 46, 52, 46, 51, 46, 50]) = true then ⟨3, 2, 0, 0⟩ else if (S.toList == [49, 46, 50, 46, 56, 52, 48, 46, 49, 48, 48, 52, 53, 46, 52, 46, 51, 46, 51]) = true then ⟨3, 3, 0, 0⟩ else if (S.toList == [49, 46, 50, 46, 56, 52, 48, 46, 49, 48, 48, 52, 53, 46, 52, 46, 51, 46, 52]) = true then ⟨3, 4, 0, 0⟩ else ⟨0, 0, 0, 0⟩
def mskO : Option (ByteArray × List El) → Int
  | some (s, [b]) => if (s.toList == [49, 46, 50, 46, 56, 52, 48, 46, 49, 49, 51, 53, 52, 57, 46, 49, 46, 49, 46, 56]) = true then digS b else 0
  | _ => 0
def mskS (x : El) : Int := mskO (idS x)
def intO (y : El) (lo hi : Int) : Option Int := if isP y 2 = true ∧ intE y.d = 0 ∧ lo ≤ intV y.d ∧ intV y.d ≤ hi then some (intV y.d) else none
def putD (a : Al) (n : Int) : Option Al := if n = 0 then none else some ⟨a.k, n, a.m, a.s⟩
def putM (a : Al) (n : Int) : Option Al := if n = 0 then none else some ⟨a.k, a.d, n, a.s⟩
def putS (a : Al) : Option Int → Option Al
  | none => none
  | some n => some ⟨a.k, a.d, a.m, n⟩
def putN (a : Al) : Option Int → Option Al
  | none => none
  | some _ => some a
def fldY (a : Al) (t : Int) (y : El) : Option Al := if t = 0 then putD a (digS y) else if t = 1 then putM a (mskS y) else if t = 2 then putS a (intO y 0 1000) else if t = 3 then putN a (intO y 1 1) else none
def fldS (a : Al) (x : El) : Option Al := if (oneS (splitS x.d)).2 = 0 then fldY a x.tg (oneS (splitS x.d)).1 else none
def pssF : List El → Al → Int → Option Al
  | [], a, _ => some a
  | x :: L, a, least => if x.cl = 2 ∧ x.co = true ∧ least ≤ x.tg then (match fldS a x with
      | none => none
      | some a' => pssF L a' (x.tg + 1)) else none
def pssO : Option (List El) → Option Al
  | none => none
  | some L => pssF L ⟨2, 1, 1, 20⟩ 0
def pssS : List El → Option Al
  | [r] => pssO (rowS r)
  | _ => none
def sgnA (a : Al) (rest : List El) : Option Al := if a.k = 2 then pssS rest else if a.k = 1 then (if vdB rest = true then some a else none) else if a.k = 3 then (if rest.isEmpty = true then some a else none) else none
def sgnO : Option (ByteArray × List El) → Option Al
  | none => none
  | some (S, rest) => sgnA (nmd S) rest
def sgnS (x : El) : Option Al := sgnO (idS x)
theorem Tryz.sizeAl : (Tryz.prog.info? 32).map (·.size) = some 4 := by kernel_rfl
theorem results_blk1 {P : Program} {fn : Func} {T : TypeId} {t : Tmp} (h : fn.results = #[.cell t T]) {a : Array Value} {w : World} {b : Nat} {cs : List Value} {d : TypeDesc} (ha : a.getD t undef = .pointer (some ⟨b, 0, none⟩))
    (hb : Blk T w b cs) (hu : P.underlying T = some d) (hd : d.isRow = true) (hi : (P.info? T).map (·.size) = some cs.length) : (results fn a).run P w = .ok (.agg cs.toArray) w := by
  have := run_loadVar_mid (P := P) w b 0 T cs d hb.whole hu hd hi
  have ha' : a[t]?.getD undef = .pointer (some ⟨b, 0, none⟩) := by simpa using ha
  simp [results, h, ha', asAddr, this]
def IntAns (an : Addr) (e : Ending) : Option Int → Prop
  | none => ∃ s, e = .returned (.tuple #[.int .i64 0, flV an s])
  | some n => e = .returned (.tuple #[.int .i64 n, .nilIface])
set_option maxHeartbeats 1000000 in
theorem readInt_any {w : World} {an ak : Addr} (hG : Glb w an ak) (x : El) (a1 : Option Addr) (n1 c1 : Nat) (a2 : Option Addr) (n2 c2 : Nat) (lo hi : Int) (hD : Sl .u8 w (.slice a1 n1 c1) x.d) (uD : U8s x.d) (lD : x.d.length ≤ 5000) :
    Calls Tryz.prog 95 #[.agg #[.int .i64 x.cl, .int .i64 x.tg, .bool x.co, .slice a1 n1 c1, .slice a2 n2 c2], .int .i64 lo, .int .i64 hi] w fun e w' => IntAns an e (intO x lo hi) ∧ Below w.heap.size w w' := by
  have HP : Hid (∀ W : World, Calls Tryz.prog 71 #[.agg #[.int .i64 x.cl, .int .i64 x.tg, .bool x.co, .slice a1 n1 c1, .slice a2 n2 c2], .int .i64 2] W fun e w' => e = .returned (.bool (isP x 2)) ∧ Below W.heap.size W w') := fun W => isPlain_any x _ _ 2
  have HI : Hid (∀ W, Below w.heap.size w W → Calls Tryz.prog 114 #[.slice a1 n1 c1] W fun e w' => e = .returned (.tuple #[.int .i64 (intV x.d), .int .i64 (intE x.d)]) ∧ W = w') := fun W h => Int_any _ x.d (below_sl h hD) uD (by omega)
  have HN : Hid (∀ W s, Below w.heap.size w W → Calls Tryz.prog 49 #[.string s] W fun e w' => e = .returned (flV an s) ∧ W = w') := fun W s h => none_any (hG.below h) s
  obtain ⟨O, hO⟩ : ∃ O, intO x lo hi = O := ⟨_, rfl⟩
  rw [hO]
  have HQ : Hid (O = if isP x 2 = true ∧ intE x.d = 0 ∧ lo ≤ intV x.d ∧ intV x.d ≤ hi then some (intV x.d) else none) := by show _ = _; rw [← hO]; rfl
  obtain ⟨cl, tg, co, D, R⟩ := x
  simp only [] at hD uD lD HP HI HQ ⊢
  obtain ⟨b, hb⟩ : ∃ b, isP ⟨cl, tg, co, D, R⟩ 2 = b := ⟨_, rfl⟩
  rw [hb] at HP HQ
  obtain ⟨v, hv⟩ : ∃ v, intV D = v := ⟨_, rfl⟩
  obtain ⟨er, her⟩ : ∃ er, intE D = er := ⟨_, rfl⟩
  rw [hv, her] at HI HQ
  clear hD uD lD hG hO hb hv her
  go_enter Tryz.func95, Tryz.ntmps95
  go_wp2_with fail
  refine (HP.out _).mono ?_
  rintro e w1 ⟨rfl, hb1⟩
  have H1 : Hid (Below w.heap.size w w1) := below_via (al1 _) hb1 (Nat.le_refl _)
  have q3 : w1.cell? ⟨w.heap.size, 3, none⟩ = some (.slice a1 n1 c1) := (below_blk hb1 (by simp) (Blk.new 24 w [.int .i64 cl, .int .i64 tg, .bool co, .slice a1 n1 c1, .slice a2 n2 c2])).cell 3
  clear hb1
  have nope : Hid (∀ W, Below w.heap.size w W → O = none → ∀ s, (IntAns an (.returned (.tuple #[.int .i64 0, flV an s])) O ∧ Below w.heap.size w W)) := fun W h ho s => ⟨by rw [ho]; exact ⟨s, rfl⟩, h⟩
  cases b with
  | false =>
    have HO : Hid (O = none) := by show _ = _; rw [HQ.out]; simp
    clear HQ HP HI q3
    go_wp2_with (go_at_call 49; refine (HN.out _ _ H1.out).mono ?_; rintro e w9 ⟨rfl, rfl⟩)
    go_ret2
    exact nope.out _ H1.out HO.out _
  | true =>
    go_wp2_with fail
    refine (HI.out _ H1.out).mono ?_
    rintro e w2 ⟨rfl, rfl⟩
    clear q3 HP HI
    by_cases h0 : er = 0
    · subst h0
      by_cases h1 : v < lo
      · have HO : Hid (O = none) := by show _ = _; rw [HQ.out, if_neg]; omega
        clear HQ
        go_wp2_with (go_at_call 49; refine (HN.out _ _ H1.out).mono ?_; rintro e w9 ⟨rfl, rfl⟩)
        go_ret2
        exact nope.out _ H1.out HO.out _
      · by_cases h2 : hi < v
        · have HO : Hid (O = none) := by show _ = _; rw [HQ.out, if_neg]; omega
          clear HQ
          go_wp2_with (go_at_call 49; refine (HN.out _ _ H1.out).mono ?_; rintro e w9 ⟨rfl, rfl⟩)
          go_ret2
          exact nope.out _ H1.out HO.out _
        · have HO : Hid (O = some v) := by show _ = _; rw [HQ.out, if_pos]; exact ⟨by trivial, by trivial, by omega, by omega⟩
          clear HQ
          go_wp2
          go_ret2
          rw [HO.out]
          exact ⟨rfl, H1.out⟩
    · have h00 : (er != 0) = true := by simpa using h0
      have HO : Hid (O = none) := by show _ = _; rw [HQ.out, if_neg]; simp [h0]
      clear HQ h0
      go_wp2_with (go_at_call 49; refine (HN.out _ _ H1.out).mono ?_; rintro e w9 ⟨rfl, rfl⟩)
      go_ret2
      exact nope.out _ H1.out HO.out _
end Go.Proofs.YtillkhjihggcjaaGreatDoor
/-
  Alg: readMask.
-/
namespace Go.Proofs.YtillkhjihggcjaaGreatDoor
open Go.RowKit
set_option maxRecDepth 20000
set_option maxHeartbeats 4000000 in
theorem readMask_any {w : World} {an ak : Addr} (hG : Glb w an ak) (hT : P10 w) (x : El) (a1 : Option Addr) (n1 c1 : Nat) (a2 : Option Addr) (n2 c2 : Nat) (hD : Sl .u8 w (.slice a1 n1 c1) x.d) (uD : U8s x.d) (lD : x.d.length ≤ 5000) :
    Calls Tryz.prog 94 #[.agg #[.int .i64 x.cl, .int .i64 x.tg, .bool x.co, .slice a1 n1 c1, .slice a2 n2 c2]] w fun e w' => DigAns an e (mskS x) ∧ Below w.heap.size w w' := by
  have HI : Hid (∀ W, Below w.heap.size w W → Calls Tryz.prog 46 #[.agg #[.int .i64 x.cl, .int .i64 x.tg, .bool x.co, .slice a1 n1 c1, .slice a2 n2 c2]] W fun e w' => IdAns an w' e (idS x) ∧ Below W.heap.size W w') := fun W h => readId_any (hG.below h) (hT.below h) x a1 n1 c1 a2 n2 c2 (below_sl h hD) uD lD
  have HN : Hid (∀ W s, Below w.heap.size w W → Calls Tryz.prog 49 #[.string s] W fun e w' => e = .returned (flV an s) ∧ W = w') := fun W s h => none_any (hG.below h) s
  have HG : Hid (Glb w an ak ∧ P10 w) := ⟨hG, hT⟩
  obtain ⟨O, hO⟩ : ∃ O, mskS x = O := ⟨_, rfl⟩
  obtain ⟨RO, hRO⟩ : ∃ R, idS x = R := ⟨_, rfl⟩
  rw [hO]
  have HQ : Hid (O = mskO RO) := by show _ = _; rw [← hO, ← hRO]; rfl
  have HL : Hid (∀ S rest, RO = some (S, rest) → rest.length ≤ 1 ∧ ∀ y ∈ rest, y.d.length ≤ 5000 ∧ U8s y.d ∧ 0 ≤ y.tg) := fun S rest h => by have := idS_good uD lD (hRO.trans h); exact ⟨this.1, this.2.2⟩
  rw [hRO] at HI
  have hsn := sneq
  obtain ⟨cl, tg, co, D, R⟩ := x
  simp only [] at hD HI ⊢
  clear hD uD lD hO hRO hG hT
  go_enter Tryz.func94, Tryz.ntmps94
  go_wp2_with fail
  refine (HI.out _ (al1 _)).mono ?_
  rintro e w1 ⟨ha, hb⟩
  have H1 : Hid (Below w.heap.size w w1) := below_via (al1 _) hb (Nat.le_refl _)
  clear hb HI
  cases RO with
  | none =>
    obtain ⟨s, rfl⟩ := ha
    have HO : Hid (O = 0) := HQ.out
    clear HQ HL HG
    simp only [flV, erV]
    go_wp2
    go_ret2
    exact ⟨.inl ⟨HO.out, _, rfl⟩, below_via H1.out (al1 _) (Nat.le_refl _)⟩
  | some SR =>
    obtain ⟨S, rest⟩ := SR
    obtain ⟨a, n, c, rfl, hn, hr⟩ := ha
    have hl := HL.out S rest rfl
    have HA : Hid (∀ W, Calls Tryz.prog 47 #[.agg #[.string S, .slice a n c]] W fun e w' => e = .returned (.bool ((n : Int) == 0)) ∧ Below W.heap.size W w') := fun W => isAlone_any S a n c
    go_upto_region 2 with (fail)
    refine wp_gen (fun W => Blk 101 W w1.heap.size [.string S, .slice a n c] ∧ Below w1.heap.size w1 W) ⟨Blk.new _ w1 _, al1 _⟩ ?_
    rintro W2 ⟨hB, hBw⟩
    have H2 : Hid (Below w1.heap.size w1 W2 ∧ Below w.heap.size w W2 ∧ ∀ W, Below W2.heap.size W2 W → Blk 101 W w1.heap.size [.string S, .slice a n c]) := ⟨hBw, below_via H1.out hBw (Nat.le_refl _), fun W h => below_blk h hB.lt hB⟩
    have i0 : W2.cell? ⟨w1.heap.size, 0, none⟩ = some (.string S) := hB.cell 0
    have i1 : W2.cell? ⟨w1.heap.size, 1, none⟩ = some (.slice a n c) := hB.cell 1
    clear hB hBw
    cases h0 : (S.toList == [49, 46, 50, 46, 56, 52, 48, 46, 49, 49, 51, 53, 52, 57, 46, 49, 46, 49, 46, 56]) with
    | false =>
      have HO : Hid (O = 0) := by
        show _ = _
        rw [HQ.out]
        rcases rest with _ | ⟨y, _ | ⟨z, rest⟩⟩
        · rfl
        · simp [mskO, h0]
        · rfl
      have h0' : (S.toList != [49, 46, 50, 46, 56, 52, 48, 46, 49, 49, 51, 53, 52, 57, 46, 49, 46, 49, 46, 56]) = true := by rw [bne, h0]; rfl
      clear HQ HL HG hr hl hn
      go_wp2_with (go_at_call 49; refine (HN.out _ _ H2.out.2.1).mono ?_; rintro e w9 ⟨rfl, rfl⟩)
      go_ret2
      exact ⟨.inl ⟨HO.out, _, rfl⟩, H2.out.2.1⟩
    | true =>
      have h0' : (S.toList != [49, 46, 50, 46, 56, 52, 48, 46, 49, 49, 51, 53, 52, 57, 46, 49, 46, 49, 46, 56]) = false := by rw [bne, h0]; rfl
      rcases rest with _ | ⟨y, _ | ⟨z, rest⟩⟩
      · obtain rfl : n = 0 := hn.symm
        have HO : Hid (O = 0) := HQ.out
        clear HQ HL HG hr hl hn
        go_wp2_with fail
        refine (HA.out _).mono ?_
        rintro e w3 ⟨rfl, hb3⟩
        have H3 : Hid (Below w.heap.size w w3) := below_via H2.out.2.1 hb3 (Nat.le_refl _)
        clear hb3 i0 i1
        go_wp2_with (go_at_call 49; refine (HN.out _ _ H3.out).mono ?_; rintro e w9 ⟨rfl, rfl⟩)
        go_ret2
        exact ⟨.inl ⟨HO.out, _, rfl⟩, H3.out⟩
      · obtain rfl : n = 1 := hn.symm
        have HO : Hid (O = digS y) := by show _ = _; rw [HQ.out]; simp [mskO, h0]
        have hy := hl.2 y (by simp)
        obtain ⟨b, off, c', b1, m1, d1, b2, m2, d2, hvv, hc, hbl, e0, e1, e2, e3, e4, sd, sr, ht⟩ := hr.cons
        simp only [Value.slice.injEq] at hvv
        obtain ⟨rfl, hx1, rfl⟩ := hvv
        have HY : Hid (∀ W, Below w1.heap.size w1 W → (W.cell? ⟨b, off, none⟩ = some (.int .i64 y.cl) ∧ W.cell? ⟨b, off + 1, none⟩ = some (.int .i64 y.tg) ∧ W.cell? ⟨b, off + 2, none⟩ = some (.bool y.co) ∧ W.cell? ⟨b, off + 3, none⟩ = some (.slice b1 m1 d1) ∧ W.cell? ⟨b, off + 4, none⟩ = some (.slice b2 m2 d2)) ∧ Calls Tryz.prog 21 #[.agg #[.int .i64 y.cl, .int .i64 y.tg, .bool y.co, .slice b1 m1 d1, .slice b2 m2 d2]] W fun e w' => DigAns an e (digS y) ∧ Below W.heap.size W w') := fun W h => ⟨⟨(h.cell hbl).trans e0, (h.cell hbl).trans e1, (h.cell hbl).trans e2, (h.cell hbl).trans e3, (h.cell hbl).trans e4⟩, readDigest_any (HG.out.1.below (below_via H1.out h (Nat.le_refl _))) (HG.out.2.below (below_via H1.out h (Nat.le_refl _))) y b1 m1 d1 b2 m2 d2 (below_sl h sd) hy.2.1 hy.1⟩
        obtain ⟨dg, hdg⟩ : ∃ dg, digS y = dg := ⟨_, rfl⟩
        rw [hdg] at HO HY
        obtain ⟨ycl, ytg, yco, yD, yR⟩ := y
        simp only [] at HY
        clear HQ HL HG hr hl hn hx1 hy hc hbl e0 e1 e2 e3 e4 sd sr ht hdg
        go_wp2_with fail
        refine (HA.out _).mono ?_
        rintro e w3 ⟨rfl, hb3⟩
        have H3 : Hid (Below w1.heap.size w1 w3 ∧ Below w.heap.size w w3) := ⟨below_via H2.out.1 hb3 (Nat.le_refl _), below_via H2.out.2.1 hb3 (Nat.le_refl _)⟩
        have j1 : w3.cell? ⟨w1.heap.size, 1, none⟩ = some (.slice (some ⟨b, off, none⟩) 1 c) := (H2.out.2.2 _ hb3).cell 1
        obtain ⟨⟨e0, e1, e2, e3, e4⟩, hcall⟩ := HY.out _ H3.out.1
        have HC : Hid (Calls Tryz.prog 21 #[.agg #[.int .i64 ycl, .int .i64 ytg, .bool yco, .slice b1 m1 d1, .slice b2 m2 d2]] w3 fun e w' => DigAns an e dg ∧ Below w3.heap.size w3 w') := hcall
        clear hb3 i0 i1 hcall HY
        go_wp2_with fail
        refine HC.out.mono ?_
        rintro e w4 ⟨hd, hb4⟩
        have H4 : Hid (Below w.heap.size w w4) := below_via H3.out.2 hb4 (Nat.le_refl _)
        clear hb4 j1 e0 e1 e2 e3 e4
        have HO' := HO.out
        rcases hd with ⟨h1, s, rfl⟩ | ⟨h1, rfl⟩
        · have HX : Hid (O = 0) := HO'.trans h1
          clear HO HO' h1
          simp only [flV, erV]
          go_wp2
          go_ret2
          exact ⟨.inl ⟨HX.out, _, rfl⟩, H4.out⟩
        · have HX : Hid (O = dg ∧ dg ≠ 0) := ⟨HO', h1⟩
          clear HO HO' h1
          go_wp2
          go_ret2
          exact ⟨.inr ⟨by rw [HX.out.1]; exact HX.out.2, by rw [HX.out.1]; rfl⟩, H4.out⟩
      · have := hl.1; simp at this
end Go.Proofs.YtillkhjihggcjaaGreatDoor
/-
  Alg: named.
-/
namespace Go.Proofs.YtillkhjihggcjaaGreatDoor
open Go.RowKit
set_option maxRecDepth 20000
set_option maxHeartbeats 4000000 in
theorem named_any {w : World} (S : ByteArray) : Calls Tryz.prog 51 #[.string S] w fun e w' => e = .returned (.agg #[.int .i64 (nmd S).k, .int .i64 (nmd S).d, .int .i64 (nmd S).m, .int .i64 (nmd S).s]) ∧ Below w.heap.size w w' := by
  obtain ⟨A, hA⟩ : ∃ A, nmd S = A := ⟨_, rfl⟩
  rw [hA]
  have HA : Hid (nmd S = A) := hA
  clear hA
  cases h0 : (S.toList == [49, 46, 50, 46, 56, 52, 48, 46, 49, 49, 51, 53, 52, 57, 46, 49, 46, 49, 46, 49]) with
  | true =>
    have HV : Hid (A = ⟨1, 0, 0, 0⟩) := by show _ = _; rw [← HA.out]; unfold nmd; simp [h0]
    clear HA
    go_enter Tryz.func51, Tryz.ntmps51
    go_wp2
    refine bodyPost_ret (results_blk1 rfl rfl (Blk.new 32 w [.int .i64 1, .int .i64 0, .int .i64 0, .int .i64 0]) Tryz.underlying32 rfl Tryz.sizeAl) rfl ⟨?_, al1 _⟩
    rw [HV.out]
  | false =>
    cases h1 : (S.toList == [49, 46, 50, 46, 56, 52, 48, 46, 49, 49, 51, 53, 52, 57, 46, 49, 46, 49, 46, 53]) with
    | true =>
      have HV : Hid (A = ⟨1, 1, 0, 0⟩) := by show _ = _; rw [← HA.out]; unfold nmd; simp [h0, h1]
      clear HA
      go_enter Tryz.func51, Tryz.ntmps51
      go_wp2
      refine bodyPost_ret (results_blk1 rfl rfl (Blk.new 32 w [.int .i64 1, .int .i64 1, .int .i64 0, .int .i64 0]) Tryz.underlying32 rfl Tryz.sizeAl) rfl ⟨?_, al1 _⟩
      rw [HV.out]
    | false =>
      cases h2 : (S.toList == [49, 46, 50, 46, 56, 52, 48, 46, 49, 49, 51, 53, 52, 57, 46, 49, 46, 49, 46, 49, 49]) with
      | true =>
        have HV : Hid (A = ⟨1, 2, 0, 0⟩) := by show _ = _; rw [← HA.out]; unfold nmd; simp [h0, h1, h2]
        clear HA
        go_enter Tryz.func51, Tryz.ntmps51
        go_wp2
        refine bodyPost_ret (results_blk1 rfl rfl (Blk.new 32 w [.int .i64 1, .int .i64 2, .int .i64 0, .int .i64 0]) Tryz.underlying32 rfl Tryz.sizeAl) rfl ⟨?_, al1 _⟩
        rw [HV.out]
      | false =>
        cases h3 : (S.toList == [49, 46, 50, 46, 56, 52, 48, 46, 49, 49, 51, 53, 52, 57, 46, 49, 46, 49, 46, 49, 50]) with
        | true =>
          have HV : Hid (A = ⟨1, 3, 0, 0⟩) := by show _ = _; rw [← HA.out]; unfold nmd; simp [h0, h1, h2, h3]
          clear HA
          go_enter Tryz.func51, Tryz.ntmps51
          go_wp2
          refine bodyPost_ret (results_blk1 rfl rfl (Blk.new 32 w [.int .i64 1, .int .i64 3, .int .i64 0, .int .i64 0]) Tryz.underlying32 rfl Tryz.sizeAl) rfl ⟨?_, al1 _⟩
          rw [HV.out]
        | false =>
          cases h4 : (S.toList == [49, 46, 50, 46, 56, 52, 48, 46, 49, 49, 51, 53, 52, 57, 46, 49, 46, 49, 46, 49, 51]) with
          | true =>
            have HV : Hid (A = ⟨1, 4, 0, 0⟩) := by show _ = _; rw [← HA.out]; unfold nmd; simp [h0, h1, h2, h3, h4]
            clear HA
            go_enter Tryz.func51, Tryz.ntmps51
            go_wp2
            refine bodyPost_ret (results_blk1 rfl rfl (Blk.new 32 w [.int .i64 1, .int .i64 4, .int .i64 0, .int .i64 0]) Tryz.underlying32 rfl Tryz.sizeAl) rfl ⟨?_, al1 _⟩
            rw [HV.out]
          | false =>
            cases h5 : (S.toList == [49, 46, 50, 46, 56, 52, 48, 46, 49, 49, 51, 53, 52, 57, 46, 49, 46, 49, 46, 49, 48]) with
            | true =>
              have HV : Hid (A = ⟨2, 1, 1, 20⟩) := by show _ = _; rw [← HA.out]; unfold nmd; simp [h0, h1, h2, h3, h4, h5]
              clear HA
              go_enter Tryz.func51, Tryz.ntmps51
              go_wp2
              refine bodyPost_ret (results_blk1 rfl rfl (Blk.new 32 w [.int .i64 2, .int .i64 1, .int .i64 1, .int .i64 20]) Tryz.underlying32 rfl Tryz.sizeAl) rfl ⟨?_, al1 _⟩
              rw [HV.out]
            | false =>
              cases h6 : (S.toList == [49, 46, 50, 46, 56, 52, 48, 46, 49, 48, 48, 52, 53, 46, 52, 46, 49]) with
              | true =>
                have HV : Hid (A = ⟨3, 1, 0, 0⟩) := by show _ = _; rw [← HA.out]; unfold nmd; simp [h0, h1, h2, h3, h4, h5, h6]
                clear HA
                go_enter Tryz.func51, Tryz.ntmps51
                go_wp2
                refine bodyPost_ret (results_blk1 rfl rfl (Blk.new 32 w [.int .i64 3, .int .i64 1, .int .i64 0, .int .i64 0]) Tryz.underlying32 rfl Tryz.sizeAl) rfl ⟨?_, al1 _⟩
                rw [HV.out]
              | false =>
                cases h7 : (S.toList == [49, 46, 50, 46, 56, 52, 48, 46, 49, 48, 48, 52, 53, 46, 52, 46, 51, 46, 50]) with
                | true =>
                  have HV : Hid (A = ⟨3, 2, 0, 0⟩) := by show _ = _; rw [← HA.out]; unfold nmd; simp [h0, h1, h2, h3, h4, h5, h6, h7]
                  clear HA
                  go_enter Tryz.func51, Tryz.ntmps51
                  go_wp2
                  refine bodyPost_ret (results_blk1 rfl rfl (Blk.new 32 w [.int .i64 3, .int .i64 2, .int .i64 0, .int .i64 0]) Tryz.underlying32 rfl Tryz.sizeAl) rfl ⟨?_, al1 _⟩
                  rw [HV.out]
                | false =>
                  cases h8 : (S.toList == [49, 46, 50, 46, 56, 52, 48, 46, 49, 48, 48, 52, 53, 46, 52, 46, 51, 46, 51]) with
                  | true =>
                    have HV : Hid (A = ⟨3, 3, 0, 0⟩) := by show _ = _; rw [← HA.out]; unfold nmd; simp [h0, h1, h2, h3, h4, h5, h6, h7, h8]
                    clear HA
                    go_enter Tryz.func51, Tryz.ntmps51
                    go_wp2
                    refine bodyPost_ret (results_blk1 rfl rfl (Blk.new 32 w [.int .i64 3, .int .i64 3, .int .i64 0, .int .i64 0]) Tryz.underlying32 rfl Tryz.sizeAl) rfl ⟨?_, al1 _⟩
                    rw [HV.out]
                  | false =>
                    cases h9 : (S.toList == [49, 46, 50, 46, 56, 52, 48, 46, 49, 48, 48, 52, 53, 46, 52, 46, 51, 46, 52]) with
                    | true =>
                      have HV : Hid (A = ⟨3, 4, 0, 0⟩) := by show _ = _; rw [← HA.out]; unfold nmd; simp [h0, h1, h2, h3, h4, h5, h6, h7, h8, h9]
                      clear HA
                      go_enter Tryz.func51, Tryz.ntmps51
                      go_wp2
                      refine bodyPost_ret (results_blk1 rfl rfl (Blk.new 32 w [.int .i64 3, .int .i64 4, .int .i64 0, .int .i64 0]) Tryz.underlying32 rfl Tryz.sizeAl) rfl ⟨?_, al1 _⟩
                      rw [HV.out]
                    | false =>
                      have HV : Hid (A = ⟨0, 0, 0, 0⟩) := by show _ = _; rw [← HA.out]; unfold nmd; simp [h0, h1, h2, h3, h4, h5, h6, h7, h8, h9]
                      clear HA
                      go_enter Tryz.func51, Tryz.ntmps51
                      go_wp2
                      refine bodyPost_ret (results_blk1 rfl rfl (Blk.new 32 w [.int .i64 0, .int .i64 0, .int .i64 0, .int .i64 0]) Tryz.underlying32 rfl Tryz.sizeAl) rfl ⟨?_, al1 _⟩
                      rw [HV.out]
end Go.Proofs.YtillkhjihggcjaaGreatDoor
/-
  Alg: readField.
-/
namespace Go.Proofs.YtillkhjihggcjaaGreatDoor
open Go.RowKit
set_option maxRecDepth 20000
theorem upd_blw {w w' : World} {b : Nat} (h : Below w.heap.size w w') : Upd w w' b := ⟨h.os, h.tape, h.output, h.size, fun k hk _ => h.block k hk⟩
def FldAns (an : Addr) (g : Nat) (w : World) (e : Ending) : Option Al → Prop
  | none => (∃ s, e = .returned (flV an s)) ∧ ∃ a', Blk 32 w g (alC a')
  | some a' => e = .returned .nilIface ∧ Blk 32 w g (alC a')
theorem oneS_good {D : List Int} (uD : U8s D) (lD : D.length ≤ 5000) : (oneS (splitS D)).1.d.length ≤ 5000 ∧ U8s (oneS (splitS D)).1.d := by
  cases hS : splitS D with
  | inl pq => exact ⟨by simp [oneS, noEl], by simp [oneS, noEl, U8s]⟩
  | inr L =>
    rcases L with _ | ⟨y, _ | ⟨z, L⟩⟩
    · exact ⟨by simp [oneS, noEl], by simp [oneS, noEl, U8s]⟩
    · have := splitS_good uD hS y (by simp)
      exact ⟨by show y.d.length ≤ 5000; omega, this.2.1⟩
    · exact ⟨by simp [oneS, noEl], by simp [oneS, noEl, U8s]⟩
set_option maxHeartbeats 4000000 in
theorem readField_any {w : World} {an ak : Addr} (hG : Glb w an ak) (hT : P10 w) (g : Nat) (A : Al) (hA : Blk 32 w g (alC A)) (x : El) (a1 : Option Addr) (n1 c1 : Nat) (a2 : Option Addr) (n2 c2 : Nat) (hD : Sl .u8 w (.slice a1 n1 c1) x.d) (uD : U8s x.d) (lD : x.d.length ≤ 5000) :
    Calls Tryz.prog 74 #[.pointer (some ⟨g, 0, none⟩), .agg #[.int .i64 x.cl, .int .i64 x.tg, .bool x.co, .slice a1 n1 c1, .slice a2 n2 c2]] w fun e w' => FldAns an g w' e (fldS A x) ∧ Upd w w' g := by
  have HI : Hid (∀ W, Below w.heap.size w W → Calls Tryz.prog 77 #[.slice a1 n1 c1] W fun e w' => OneOut W.heap.size w' e (oneS (splitS x.d)) ∧ Below W.heap.size W w') := fun W h => OneS_any _ x.d (below_sl h hD) uD (by omega)
  have HN : Hid (∀ W s, Below w.heap.size w W → Calls Tryz.prog 49 #[.string s] W fun e w' => e = .returned (flV an s) ∧ W = w') := fun W s h => none_any (hG.below h) s
  have HG : Hid (Glb w an ak ∧ P10 w) := ⟨hG, hT⟩
  have hy := oneS_good uD lD
  obtain ⟨O, hO⟩ : ∃ O, fldS A x = O := ⟨_, rfl⟩
  rw [hO]
  obtain ⟨⟨y, er⟩, hye⟩ : ∃ ye, oneS (splitS x.d) = ye := ⟨_, rfl⟩
  have HQ : Hid (O = if er = 0 then fldY A x.tg y else none) := by show _ = _; rw [← hO]; unfold fldS; rw [hye]
  rw [hye] at HI hy
  simp only [] at hy
  have HA : Hid (Blk 32 w g (alC A)) := hA
  have hsn := sneq
  obtain ⟨cl, tg, co, D, R⟩ := x
  simp only [] at hD HI HQ ⊢
  clear hD uD lD hO hG hT hye hA
  go_enter Tryz.func74, Tryz.ntmps74
  go_wp2_with fail
  refine (HI.out _ (al1 _)).mono ?_
  rintro e w1 ⟨⟨b1, m1, d1, b2, m2, d2, rfl, hd, hr⟩, hb⟩
  have H1 : Hid (Below w.heap.size w w1 ∧ Blk 24 w1 w.heap.size [.int .i64 cl, .int .i64 tg, .bool co, .slice a1 n1 c1, .slice a2 n2 c2] ∧ Sl .u8 w1 (.slice b1 m1 d1) y.d) := ⟨below_via (al1 _) hb (Nat.le_refl _), below_blk hb (by simp) (Blk.new _ w _), hd.sl⟩
  have HY : Hid (∀ W, Below w1.heap.size w1 W → Glb W an ak ∧ P10 W ∧ Sl .u8 W (.slice b1 m1 d1) y.d ∧ U8s y.d ∧ y.d.length ≤ 5000) := fun W h => ⟨HG.out.1.below (below_via H1.out.1 h (Nat.le_refl _)), HG.out.2.below (below_via H1.out.1 h (Nat.le_refl _)), below_sl h H1.out.2.2, hy.2, hy.1⟩
  clear hb HI hd hr HG hy
  simp only []
  obtain ⟨ycl, ytg, yco, yD, yR⟩ := y
  simp only [] at HY ⊢
  go_upto_region 2 with (fail)
  refine wp_gen (fun W => Blk 24 W w1.heap.size [.int .i64 ycl, .int .i64 ytg, .bool yco, .slice b1 m1 d1, .slice b2 m2 d2] ∧ Below w1.heap.size w1 W) ⟨Blk.new _ w1 _, al1 _⟩ ?_
  rintro W2 ⟨hB, hBw⟩
  have H2 : Hid (Below w1.heap.size w1 W2 ∧ Below w.heap.size w W2 ∧ Blk 32 W2 g (alC A)) := ⟨hBw, below_via H1.out.1 hBw (Nat.le_refl _), below_blk (below_via H1.out.1 hBw (Nat.le_refl _)) HA.out.lt HA.out⟩
  have i0 : W2.cell? ⟨w1.heap.size, 0, none⟩ = some (.int .i64 ycl) := hB.cell 0
  have i1 : W2.cell? ⟨w1.heap.size, 1, none⟩ = some (.int .i64 ytg) := hB.cell 1
  have i2 : W2.cell? ⟨w1.heap.size, 2, none⟩ = some (.bool yco) := hB.cell 2
  have i3 : W2.cell? ⟨w1.heap.size, 3, none⟩ = some (.slice b1 m1 d1) := hB.cell 3
  have i4 : W2.cell? ⟨w1.heap.size, 4, none⟩ = some (.slice b2 m2 d2) := hB.cell 4
  have t1 : W2.cell? ⟨w.heap.size, 1, none⟩ = some (.int .i64 tg) := (below_blk hBw H1.out.2.1.lt H1.out.2.1).cell 1
  clear hB hBw
  by_cases h0 : er = 0
  · subst h0
    replace HQ : Hid (O = fldY A tg ⟨ycl, ytg, yco, yD, yR⟩) := HQ.out
    have fin : Hid (∀ (W : World) (i : Nat) (n : Int) (A' : Al) (e : Ending), Below W2.heap.size W2 W → (alC A).set i (.int .i64 n) = alC A' → FldAns an g (W.setCell ⟨g, i, none⟩ (.int .i64 n)) e O = FldAns an g (W.setCell ⟨g, i, none⟩ (.int .i64 n)) e O ∧ Blk 32 (W.setCell ⟨g, i, none⟩ (.int .i64 n)) g (alC A') ∧ Upd w (W.setCell ⟨g, i, none⟩ (.int .i64 n)) g) := fun W i n A' e h hs => by
      have hk := below_blk h H2.out.2.2.lt H2.out.2.2
      refine ⟨rfl, ?_, (upd_blw (below_via H2.out.2.1 h (Nat.le_refl _))).trans (Upd.set W g i _)⟩
      rw [← hs]
      exact hk.set i _
    obtain ⟨ak', ad', am', as'⟩ := A
    by_cases t0h : tg = 0
    · subst t0h
      obtain ⟨dg, hdg⟩ : ∃ dg, digS ⟨ycl, ytg, yco, yD, yR⟩ = dg := ⟨_, rfl⟩
      replace HQ : Hid (O = putD ⟨ak', ad', am', as'⟩ dg) := by show _ = _; rw [HQ.out, ← hdg]; rfl
      have HC : Hid (Calls Tryz.prog 21 #[.agg #[.int .i64 ycl, .int .i64 ytg, .bool yco, .slice b1 m1 d1, .slice b2 m2 d2]] W2 fun e w' => DigAns an e dg ∧ Below W2.heap.size W2 w') := by
        have := HY.out W2 H2.out.1
        rw [← hdg]
        exact readDigest_any this.1 this.2.1 ⟨ycl, ytg, yco, yD, yR⟩ b1 m1 d1 b2 m2 d2 this.2.2.1 this.2.2.2.1 this.2.2.2.2
      clear HY hdg
      go_wp2_with fail
      refine HC.out.mono ?_
      rintro e w3 ⟨hd, hb3⟩
      have hk := below_blk hb3 H2.out.2.2.lt H2.out.2.2
      have k1 : w3.cell? ⟨g, 1, none⟩ = some (.int .i64 ad') := hk.cell 1
      have kf := hk.frozen 1
      have H3 : Hid (Below W2.heap.size W2 w3) := hb3
      clear hk hb3 i0 i1 i2 i3 i4 t1
      rcases hd with ⟨h1, s, rfl⟩ | ⟨h1, rfl⟩
      · have HO : Hid (O = none) := by show _ = _; rw [HQ.out, h1]; rfl
        have hf := fin.out w3 1 0 ⟨ak', 0, am', as'⟩ .outgrown H3.out rfl
        have HF : Hid (Blk 32 (w3.setCell ⟨g, 1, none⟩ (.int .i64 0)) g (alC ⟨ak', 0, am', as'⟩) ∧ Upd w (w3.setCell ⟨g, 1, none⟩ (.int .i64 0)) g) := hf.2
        clear HQ hf h1
        simp only [flV, erV]
        go_wp2
        go_ret
        rw [HO.out]
        exact ⟨⟨⟨_, rfl⟩, _, HF.out.1⟩, HF.out.2⟩
      · have HO : Hid (O = some ⟨ak', dg, am', as'⟩) := by show _ = _; rw [HQ.out]; unfold putD; rw [if_neg h1]
        have hf := fin.out w3 1 dg ⟨ak', dg, am', as'⟩ .outgrown H3.out rfl
        have HF : Hid (Blk 32 (w3.setCell ⟨g, 1, none⟩ (.int .i64 dg)) g (alC ⟨ak', dg, am', as'⟩) ∧ Upd w (w3.setCell ⟨g, 1, none⟩ (.int .i64 dg)) g) := hf.2
        clear HQ hf h1
        go_wp2
        go_ret
        rw [HO.out]
        exact ⟨⟨rfl, HF.out.1⟩, HF.out.2⟩
    by_cases t1h : tg = 1
    · subst t1h
      obtain ⟨dg, hdg⟩ : ∃ dg, mskS ⟨ycl, ytg, yco, yD, yR⟩ = dg := ⟨_, rfl⟩
      replace HQ : Hid (O = putM ⟨ak', ad', am', as'⟩ dg) := by show _ = _; rw [HQ.out, ← hdg]; rfl
      have HC : Hid (Calls Tryz.prog 94 #[.agg #[.int .i64 ycl, .int .i64 ytg, .bool yco, .slice b1 m1 d1, .slice b2 m2 d2]] W2 fun e w' => DigAns an e dg ∧ Below W2.heap.size W2 w') := by
        have := HY.out W2 H2.out.1
        rw [← hdg]
        exact readMask_any this.1 this.2.1 ⟨ycl, ytg, yco, yD, yR⟩ b1 m1 d1 b2 m2 d2 this.2.2.1 this.2.2.2.1 this.2.2.2.2
      clear HY hdg
      go_wp2_with fail
      refine HC.out.mono ?_
      rintro e w3 ⟨hd, hb3⟩
      have hk := below_blk hb3 H2.out.2.2.lt H2.out.2.2
      have k1 : w3.cell? ⟨g, 2, none⟩ = some (.int .i64 am') := hk.cell 2
      have kf := hk.frozen 2
      have H3 : Hid (Below W2.heap.size W2 w3) := hb3
      clear hk hb3 i0 i1 i2 i3 i4 t1
      rcases hd with ⟨h1, s, rfl⟩ | ⟨h1, rfl⟩
      · have HO : Hid (O = none) := by show _ = _; rw [HQ.out, h1]; rfl
        have hf := fin.out w3 2 0 ⟨ak', ad', 0, as'⟩ .outgrown H3.out rfl
        have HF : Hid (Blk 32 (w3.setCell ⟨g, 2, none⟩ (.int .i64 0)) g (alC ⟨ak', ad', 0, as'⟩) ∧ Upd w (w3.setCell ⟨g, 2, none⟩ (.int .i64 0)) g) := hf.2
        clear HQ hf h1
        simp only [flV, erV]
        go_wp2
        go_ret
        rw [HO.out]
        exact ⟨⟨⟨_, rfl⟩, _, HF.out.1⟩, HF.out.2⟩
      · have HO : Hid (O = some ⟨ak', ad', dg, as'⟩) := by show _ = _; rw [HQ.out]; unfold putM; rw [if_neg h1]
        have hf := fin.out w3 2 dg ⟨ak', ad', dg, as'⟩ .outgrown H3.out rfl
        have HF : Hid (Blk 32 (w3.setCell ⟨g, 2, none⟩ (.int .i64 dg)) g (alC ⟨ak', ad', dg, as'⟩) ∧ Upd w (w3.setCell ⟨g, 2, none⟩ (.int .i64 dg)) g) := hf.2
        clear HQ hf h1
        go_wp2
        go_ret
        rw [HO.out]
        exact ⟨⟨rfl, HF.out.1⟩, HF.out.2⟩
    by_cases t2h : tg = 2
    · subst t2h
      obtain ⟨io, hio⟩ : ∃ io, intO ⟨ycl, ytg, yco, yD, yR⟩ 0 1000 = io := ⟨_, rfl⟩
      replace HQ : Hid (O = putS ⟨ak', ad', am', as'⟩ io) := by show _ = _; rw [HQ.out, ← hio]; rfl
      have HC : Hid (Calls Tryz.prog 95 #[.agg #[.int .i64 ycl, .int .i64 ytg, .bool yco, .slice b1 m1 d1, .slice b2 m2 d2], .int .i64 0, .int .i64 1000] W2 fun e w' => IntAns an e io ∧ Below W2.heap.size W2 w') := by
        have := HY.out W2 H2.out.1
        rw [← hio]
        exact readInt_any this.1 ⟨ycl, ytg, yco, yD, yR⟩ b1 m1 d1 b2 m2 d2 0 1000 this.2.2.1 this.2.2.2.1 this.2.2.2.2
      clear HY hio
      go_wp2_with fail
      refine HC.out.mono ?_
      rintro e w3 ⟨hd, hb3⟩
      have hk := below_blk hb3 H2.out.2.2.lt H2.out.2.2
      have k1 : w3.cell? ⟨g, 3, none⟩ = some (.int .i64 as') := hk.cell 3
      have kf := hk.frozen 3
      have H3 : Hid (Below W2.heap.size W2 w3) := hb3
      clear hk hb3 i0 i1 i2 i3 i4 t1
      cases io with
      | none =>
        obtain ⟨s, rfl⟩ := hd
        have HO : Hid (O = none) := HQ.out
        have hf := fin.out w3 3 0 ⟨ak', ad', am', 0⟩ .outgrown H3.out rfl
        have HF : Hid (Blk 32 (w3.setCell ⟨g, 3, none⟩ (.int .i64 0)) g (alC ⟨ak', ad', am', 0⟩) ∧ Upd w (w3.setCell ⟨g, 3, none⟩ (.int .i64 0)) g) := hf.2
        clear HQ hf
        simp only [flV, erV]
        go_wp2
        go_ret
        rw [HO.out]
        exact ⟨⟨⟨_, rfl⟩, _, HF.out.1⟩, HF.out.2⟩
      | some n =>
        obtain rfl : e = _ := hd
        have HO : Hid (O = some ⟨ak', ad', am', n⟩) := HQ.out
        have hf := fin.out w3 3 n ⟨ak', ad', am', n⟩ .outgrown H3.out rfl
        have HF : Hid (Blk 32 (w3.setCell ⟨g, 3, none⟩ (.int .i64 n)) g (alC ⟨ak', ad', am', n⟩) ∧ Upd w (w3.setCell ⟨g, 3, none⟩ (.int .i64 n)) g) := hf.2
        clear HQ hf
        go_wp2
        go_ret
        rw [HO.out]
        exact ⟨⟨rfl, HF.out.1⟩, HF.out.2⟩
    by_cases t3h : tg = 3
    · subst t3h
      obtain ⟨io, hio⟩ : ∃ io, intO ⟨ycl, ytg, yco, yD, yR⟩ 1 1 = io := ⟨_, rfl⟩
      replace HQ : Hid (O = putN ⟨ak', ad', am', as'⟩ io) := by show _ = _; rw [HQ.out, ← hio]; rfl
      have HC : Hid (Calls Tryz.prog 95 #[.agg #[.int .i64 ycl, .int .i64 ytg, .bool yco, .slice b1 m1 d1, .slice b2 m2 d2], .int .i64 1, .int .i64 1] W2 fun e w' => IntAns an e io ∧ Below W2.heap.size W2 w') := by
        have := HY.out W2 H2.out.1
        rw [← hio]
        exact readInt_any this.1 ⟨ycl, ytg, yco, yD, yR⟩ b1 m1 d1 b2 m2 d2 1 1 this.2.2.1 this.2.2.2.1 this.2.2.2.2
      clear HY hio
      go_wp2_with fail
      refine HC.out.mono ?_
      rintro e w3 ⟨hd, hb3⟩
      have H3 : Hid (Below w.heap.size w w3 ∧ Blk 32 w3 g (alC ⟨ak', ad', am', as'⟩)) := ⟨below_via H2.out.2.1 hb3 (Nat.le_refl _), below_blk hb3 H2.out.2.2.lt H2.out.2.2⟩
      clear hb3 i0 i1 i2 i3 i4 t1
      cases io with
      | none =>
        obtain ⟨s, rfl⟩ := hd
        have HO : Hid (O = none) := HQ.out
        clear HQ
        simp only [flV, erV]
        go_wp2
        go_ret
        rw [HO.out]
        exact ⟨⟨⟨_, rfl⟩, _, H3.out.2⟩, upd_blw H3.out.1⟩
      | some n =>
        obtain rfl : e = _ := hd
        have HO : Hid (O = some ⟨ak', ad', am', as'⟩) := HQ.out
        clear HQ
        go_wp2
        go_ret
        rw [HO.out]
        exact ⟨⟨rfl, H3.out.2⟩, upd_blw H3.out.1⟩
    have HO : Hid (O = none) := by show _ = _; rw [HQ.out]; unfold fldY; rw [if_neg t0h, if_neg t1h, if_neg t2h, if_neg t3h]
    have u0 : (tg == 0) = false := by simpa using t0h
    have u1 : (tg == 1) = false := by simpa using t1h
    have u2 : (tg == 2) = false := by simpa using t2h
    have u3 : (tg == 3) = false := by simpa using t3h
    clear HQ i0 i1 i2 i3 i4 t0h t1h t2h t3h
    go_wp2_with (go_at_call 49; refine (HN.out _ _ H2.out.2.1).mono ?_; rintro e w9 ⟨rfl, rfl⟩)
    go_ret
    rw [HO.out]
    exact ⟨⟨⟨_, rfl⟩, _, H2.out.2.2⟩, upd_blw H2.out.2.1⟩
  · have HO : Hid (O = none) := by show _ = _; rw [HQ.out, if_neg h0]
    have h00 : (er != 0) = true := by simpa using h0
    clear HQ h0 i0 i1 i2 i3 i4 t1
    go_wp2_with (go_at_call 49; refine (HN.out _ _ H2.out.2.1).mono ?_; rintro e w9 ⟨rfl, rfl⟩)
    go_ret
    rw [HO.out]
    exact ⟨⟨⟨_, rfl⟩, A, H2.out.2.2⟩, upd_blw H2.out.2.1⟩
end Go.Proofs.YtillkhjihggcjaaGreatDoor
