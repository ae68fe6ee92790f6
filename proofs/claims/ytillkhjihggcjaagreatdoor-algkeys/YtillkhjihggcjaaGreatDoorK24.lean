/-
  Curve: numbers in memory by their value; package nat by values.
-/
import Derived.Deep.RegionHeld3
import Derived.Test.YtillkhjihggcjaaGreatDoorK23
namespace Go.Proofs.YtillkhjihggcjaaGreatDoor
open Go.RowKit
set_option maxRecDepth 20000
theorem wpList_boxR {P : Program} {ops : Array Oper} {rest : List Oper} {o : Oper} {a : Act} {w : World} {Q : Exit → Act → World → Prop} (hg : o.guard = none) (t : TypeId) (x : Operand) (ho : o.op = .box t x) (cells : Array Value) (hx : a.eval x = .agg cells)
    (h : wpList P ops Q rest (a.put o.dst (.pointer (some ⟨w.heap.size, 0, none⟩))) (w.alloc (.cells cells t))) : wpList P ops Q (o :: rest) a w := by
  refine wpList_plain hg fun K hK => ?_
  unfold Oper.wp execOp
  simp only [ho, hx, Sem.run_bind, Instr.box, newVar, newRow, run_newObj_alloc, Sem.run_pure, Result.andThen_ok]
  exact hK _ _ h
/-- The value reads the limbs of x. -/
def Nb (w : World) (v : Value) (x : Nat) : Prop := Sl .u32 w v (lim x)
theorem Nb.below {w w' : World} {v : Value} {x : Nat} (h : Nb w v x) (hb : Below w.heap.size w w') : Nb w' v x := below_sl hb h
theorem Nb.sl {w : World} {v : Value} {x : Nat} (h : Nb w v x) : Sl .u32 w v (lim x) := h
theorem Nb.form {w : World} {v : Value} {x : Nat} (h : Nb w v x) : ∃ a c, v = .slice a (lim x).length c := by
  obtain ⟨a, c, h1, _⟩ := h; exact ⟨a, c, h1⟩
/-- A number of at most 1024 binary digits. -/
def Sm (x : Nat) : Prop := x < 4294967296 ^ 32
theorem lim_sm {x : Nat} (h : Sm x) : (lim x).length ≤ 32 := by
  refine lim_len_le ?_
  have : ((x : Nat) : Int) < ((4294967296 ^ 32 : Nat) : Int) := Int.ofNat_lt.2 h
  rw [Int.natCast_pow] at this
  exact this
theorem nil_nb (w : World) : Nb w (.slice none 0 0) 0 := ⟨none, 0, rfl, Nat.le_refl _, .inl rfl⟩
theorem NAdd {w : World} (a b : Value) (x y : Nat) (ha : Nb w a x) (hb : Nb w b y) (hx : Sm x) (hy : Sm y) :
    Calls Tryz.prog 138 #[a, b] w fun e w' => ∃ r, e = .returned (.tuple #[r, .int .i64 0]) ∧ Nb w' r (x + y) ∧ Below w.heap.size w w' := by
  refine (Nt.Add_any (lim x) (lim y) a b w ha hb (lim_u32 _) (lim_u32 _)).mono ?_
  rintro e w' ⟨⟨r, rfl, ho⟩, hB⟩
  have l1 := lim_sm hx
  have l2 := lim_sm hy
  have l3 : (lim (x + y)).length ≤ 33 := by
    refine lim_len_le ?_
    have : ((x + y : Nat) : Int) < ((4294967296 ^ 33 : Nat) : Int) := Int.ofNat_lt.2 (by
      have := hx; have := hy; unfold Sm at *
      rw [Nat.pow_succ]; omega)
    rw [Int.natCast_pow] at this
    exact this
  have e1 : Nt.addS (lim x) (lim y) = (lim (x + y), 0) := by
    unfold Nt.addS; rw [if_neg (by omega), val_lim, val_lim]
    have : ((x : Int) + (y : Int)).toNat = x + y := by omega
    rw [this]; unfold Nt.fit; rw [if_neg (by omega)]
  rw [e1] at ho ⊢
  exact ⟨r, rfl, ho.sl, hB⟩
theorem NSub {w : World} (a b : Value) (x y : Nat) (ha : Nb w a x) (hb : Nb w b y) (hx : (lim x).length ≤ 512) (hy : (lim y).length ≤ 512) (hle : y ≤ x) :
    Calls Tryz.prog 139 #[a, b] w fun e w' => ∃ r, e = .returned (.tuple #[r, .int .i64 0]) ∧ Nb w' r (x - y) ∧ Below w.heap.size w w' := by
  refine (Nt.Sub_any (lim x) (lim y) a b w ha hb (lim_u32 _) (lim_u32 _)).mono ?_
  rintro e w' ⟨⟨r, rfl, ho⟩, hB⟩
  have e1 : Nt.subS (lim x) (lim y) = (lim (x - y), 0) := by
    unfold Nt.subS; rw [if_neg (by omega), val_lim, val_lim, if_neg (by omega)]
    have : ((x : Int) - (y : Int)).toNat = x - y := by omega
    rw [this]
  rw [e1] at ho ⊢
  exact ⟨r, rfl, ho.sl, hB⟩
theorem NMul {w : World} (a b : Value) (x y : Nat) (ha : Nb w a x) (hb : Nb w b y) (hx : Sm x) (hy : Sm y) :
    Calls Tryz.prog 140 #[a, b] w fun e w' => ∃ r, e = .returned (.tuple #[r, .int .i64 0]) ∧ Nb w' r (x * y) ∧ (lim (x * y)).length ≤ 64 ∧ Below w.heap.size w w' := by
  refine (Nt.Mul_any (lim x) (lim y) a b w ha hb (lim_u32 _) (lim_u32 _)).mono ?_
  rintro e w' ⟨⟨r, rfl, ho⟩, hB⟩
  have l1 := lim_sm hx
  have l2 := lim_sm hy
  have l3 : (lim (x * y)).length ≤ 64 := by
    refine lim_len_le ?_
    have : ((x * y : Nat) : Int) < ((4294967296 ^ 64 : Nat) : Int) := Int.ofNat_lt.2 (by
      have e : 4294967296 ^ 64 = 4294967296 ^ 32 * 4294967296 ^ 32 := by rw [← Nat.pow_add]
      rw [e]; exact Nat.mul_lt_mul'' hx hy)
    rw [Int.natCast_pow] at this
    exact this
  have e1 : Nt.mulS (lim x) (lim y) = (lim (x * y), 0) := by
    unfold Nt.mulS; rw [if_neg (by omega), val_lim, val_lim]
    have : ((x : Int) * (y : Int)).toNat = x * y := by rw [← Int.natCast_mul]; rfl
    rw [this]; unfold Nt.fit; rw [if_neg (by omega)]
  rw [e1] at ho ⊢
  exact ⟨r, rfl, ho.sl, l3, hB⟩
theorem NDivMod {w : World} (a b : Value) (x y : Nat) (ha : Nb w a x) (hb : Nb w b y) (hx : (lim x).length ≤ 512) (hy : (lim y).length ≤ 512) (h0 : 0 < y) :
    Calls Tryz.prog 141 #[a, b] w fun e w' => ∃ q r, e = .returned (.tuple #[q, r, .int .i64 0]) ∧ Nb w' q (x / y) ∧ Nb w' r (x % y) ∧ Below w.heap.size w w' := by
  refine (Nt.DivMod_any (lim x) (lim y) a b w ha hb (lim_u32 _) (lim_u32 _) (.inr Nt.long_ok)).mono ?_
  rintro e w' ⟨⟨q, r, rfl, hq, ho⟩, hB⟩
  have e1 : Nt.divS (lim x) (lim y) = (lim (x / y), lim (x % y), 0) := by
    unfold Nt.divS; rw [if_neg (by omega), val_lim, val_lim, if_neg (by omega)]
    have h1 : ((x : Int) / (y : Int)).toNat = x / y := by rw [← Int.natCast_ediv]; rfl
    have h2 : ((x : Int) % (y : Int)).toNat = x % y := by rw [← Int.natCast_emod]; rfl
    rw [h1, h2]
  rw [e1] at hq ho ⊢
  exact ⟨q, r, rfl, hq.sl, ho.sl, hB⟩
theorem NCmp {w : World} (a b : Value) (x y : Nat) (ha : Nb w a x) (hb : Nb w b y) (hx : (lim x).length ≤ 512) (hy : (lim y).length ≤ 512) (c : Int) (hc : Nt.cmpI x y = c) :
    Calls Tryz.prog 122 #[a, b] w fun e w' => e = .returned (.int .i64 c) ∧ Below w.heap.size w w' := by
  refine (Nt.Cmp_any (lim x) (lim y) a b w ha hb (lim_u32 _) (lim_u32 _) (by omega) (by omega)).mono ?_
  rintro e w' ⟨rfl, hB⟩
  rw [val_lim, val_lim, hc]
  exact ⟨rfl, hB⟩
end Go.Proofs.YtillkhjihggcjaaGreatDoor
/-
  Curve: sums, differences, products modulo a prime.
-/
namespace Go.Proofs.YtillkhjihggcjaaGreatDoor
open Go.RowKit
set_option maxRecDepth 20000
def fad (p x y : Nat) : Nat := (x + y) % p
def fsb (p x y : Nat) : Nat := (x + (p - y)) % p
def fml (p x y : Nat) : Nat := x * y % p
theorem fad_lt {p x y : Nat} (h : 0 < p) : fad p x y < p := Nat.mod_lt _ h
theorem fsb_lt {p x y : Nat} (h : 0 < p) : fsb p x y < p := Nat.mod_lt _ h
theorem fml_lt {p x y : Nat} (h : 0 < p) : fml p x y < p := Nat.mod_lt _ h
theorem fad_eq {p x y : Nat} (hx : x < p) (hy : y < p) : fad p x y = if p ≤ x + y then x + y - p else x + y := by
  unfold fad
  split
  · rename_i h; rw [Nat.mod_eq_sub_mod h, Nat.mod_eq_of_lt (by omega)]
  · rename_i h; rw [Nat.mod_eq_of_lt (by omega)]
theorem fsb_eq {p x y : Nat} (hx : x < p) (hy : y < p) : fsb p x y = if x < y then x + p - y else x - y := by
  unfold fsb
  split
  · rename_i h; rw [Nat.mod_eq_of_lt (by omega)]; omega
  · rename_i h; rw [Nat.mod_eq_sub_mod (by omega), Nat.mod_eq_of_lt (by omega)]; omega
/-- A prime as a field of the curve's: what is asked of it here. -/
def Fld (w : World) (f : Value) (p : Nat) : Prop := Nb w f p ∧ 0 < p ∧ p < 4294967296 ^ 12
theorem Fld.below {w w' : World} {f : Value} {p : Nat} (h : Fld w f p) (hb : Below w.heap.size w w') : Fld w' f p := ⟨h.1.below hb, h.2⟩
theorem sm_of {x p : Nat} (hp : p < 4294967296 ^ 12) (h : x < p) : Sm x := by
  have : (4294967296 : Nat) ^ 12 ≤ 4294967296 ^ 32 := Nat.pow_le_pow_right (by decide) (by decide)
  unfold Sm; omega
theorem sm_two {x y p : Nat} (hp : p < 4294967296 ^ 12) (h : x < p) (h' : y ≤ p) : Sm (x + y) := by
  have : (4294967296 : Nat) ^ 32 = 4294967296 ^ 12 * 4294967296 ^ 20 := by rw [← Nat.pow_add]
  have h2 : 2 ≤ (4294967296 : Nat) ^ 20 := by have := Nat.pow_le_pow_right (n := 4294967296) (i := 1) (j := 20) (by decide) (by decide); omega
  unfold Sm
  rw [this]
  refine Nat.lt_of_lt_of_le (m := 4294967296 ^ 12 * 2) (by omega) (Nat.mul_le_mul_left _ h2)
theorem lim512 {x : Nat} (h : Sm x) : (lim x).length ≤ 512 := by have := lim_sm h; omega
set_option maxHeartbeats 1000000 in
theorem Fplus {w : World} (f a b : Value) (p x y : Nat) (hf : Fld w f p) (ha : Nb w a x) (hb : Nb w b y) (hx : x < p) (hy : y < p) :
    Calls Tryz.prog 124 #[f, a, b] w fun e w' => ∃ r, e = .returned r ∧ Nb w' r (fad p x y) ∧ Below w.heap.size w w' := by
  have sx := sm_of hf.2.2 hx
  have sy := sm_of hf.2.2 hy
  have sp : Sm p := by have := sm_two (x := 0) (y := p) hf.2.2 hf.2.1 (Nat.le_refl _); simpa using this
  have sxy := sm_two hf.2.2 hx (Nat.le_of_lt hy)
  have HF : Hid (Fld w f p ∧ Nb w a x ∧ Nb w b y) := ⟨hf, ha, hb⟩
  have HS : Hid (Sm x ∧ Sm y ∧ Sm p ∧ Sm (x + y)) := ⟨sx, sy, sp, sxy⟩
  have HE : Hid (fad p x y = if p ≤ x + y then x + y - p else x + y) := fad_eq hx hy
  clear hf ha hb sx sy sp sxy hx hy
  by_cases h : p ≤ x + y
  · have HC : Hid (∃ c : Int, Nt.cmpI ((x + y : Nat) : Int) p = c ∧ decide (c ≥ 0) = true) := ⟨_, rfl, by unfold Nt.cmpI; rw [if_neg (by omega)]; split <;> decide⟩
    have HL : Hid (p ≤ x + y) := h
    clear h
    obtain ⟨c, hc, d⟩ := HC.out
    have HC2 : Hid (Nt.cmpI ((x + y : Nat) : Int) p = c) := hc
    clear hc HC
    go_enter Tryz.func124, Tryz.ntmps124
    go_wp2_with (first
      | (go_at_call 138; refine (NAdd a b x y HF.out.2.1 HF.out.2.2 HS.out.1 HS.out.2.1).mono ?_; rintro e w1 ⟨r1, rfl, hr1, hb1⟩; have H1 : Hid (Nb w1 r1 (x + y) ∧ Below w.heap.size w w1) := ⟨hr1, hb1⟩; clear hr1 hb1)
      | (go_at_call 122; refine (NCmp _ f (x + y) p H1.out.1 (HF.out.1.1.below H1.out.2) (lim512 HS.out.2.2.2) (lim512 HS.out.2.2.1) c HC2.out).mono ?_; rintro e w2 ⟨rfl, hb2⟩; have H2 : Hid (Nb w2 r1 (x + y) ∧ Below w.heap.size w w2) := ⟨H1.out.1.below hb2, below_via H1.out.2 hb2 (Nat.le_refl _)⟩; clear hb2)
      | (go_at_call 139; refine (NSub _ f (x + y) p H2.out.1 (HF.out.1.1.below H2.out.2) (lim512 HS.out.2.2.2) (lim512 HS.out.2.2.1) HL.out).mono ?_; rintro e w3 ⟨r3, rfl, hr3, hb3⟩; have H3 : Hid (Nb w3 r3 (x + y - p) ∧ Below w.heap.size w w3) := ⟨hr3, below_via H2.out.2 hb3 (Nat.le_refl _)⟩; clear hr3 hb3))
    go_ret
    exact ⟨_, rfl, by rw [HE.out, if_pos HL.out]; exact H3.out.1, H3.out.2⟩
  · have HC : Hid (∃ c : Int, Nt.cmpI ((x + y : Nat) : Int) p = c ∧ decide (c ≥ 0) = false) := ⟨_, rfl, by unfold Nt.cmpI; rw [if_pos (by omega)]; decide⟩
    have HL : Hid (¬ p ≤ x + y) := h
    clear h
    obtain ⟨c, hc, d⟩ := HC.out
    have HC2 : Hid (Nt.cmpI ((x + y : Nat) : Int) p = c) := hc
    clear hc HC
    go_enter Tryz.func124, Tryz.ntmps124
    go_wp2_with (first
      | (go_at_call 138; refine (NAdd a b x y HF.out.2.1 HF.out.2.2 HS.out.1 HS.out.2.1).mono ?_; rintro e w1 ⟨r1, rfl, hr1, hb1⟩; have H1 : Hid (Nb w1 r1 (x + y) ∧ Below w.heap.size w w1) := ⟨hr1, hb1⟩; clear hr1 hb1)
      | (go_at_call 122; refine (NCmp _ f (x + y) p H1.out.1 (HF.out.1.1.below H1.out.2) (lim512 HS.out.2.2.2) (lim512 HS.out.2.2.1) c HC2.out).mono ?_; rintro e w2 ⟨rfl, hb2⟩; have H2 : Hid (Nb w2 r1 (x + y) ∧ Below w.heap.size w w2) := ⟨H1.out.1.below hb2, below_via H1.out.2 hb2 (Nat.le_refl _)⟩; clear hb2))
    go_ret
    exact ⟨_, rfl, by rw [HE.out, if_neg HL.out]; exact H2.out.1, H2.out.2⟩
set_option maxHeartbeats 1000000 in
theorem Fminus {w : World} (f a b : Value) (p x y : Nat) (hf : Fld w f p) (ha : Nb w a x) (hb : Nb w b y) (hx : x < p) (hy : y < p) :
    Calls Tryz.prog 125 #[f, a, b] w fun e w' => ∃ r, e = .returned r ∧ Nb w' r (fsb p x y) ∧ Below w.heap.size w w' := by
  have sx := sm_of hf.2.2 hx
  have sy := sm_of hf.2.2 hy
  have sp : Sm p := by have := sm_two (x := 0) (y := p) hf.2.2 hf.2.1 (Nat.le_refl _); simpa using this
  have sxp := sm_two hf.2.2 hx (Nat.le_refl p)
  have HF : Hid (Fld w f p ∧ Nb w a x ∧ Nb w b y) := ⟨hf, ha, hb⟩
  have HS : Hid (Sm x ∧ Sm y ∧ Sm p ∧ Sm (x + p)) := ⟨sx, sy, sp, sxp⟩
  have HE : Hid (fsb p x y = if x < y then x + p - y else x - y) := fsb_eq hx hy
  have HY : Hid (y < p) := hy
  clear hf ha hb sx sy sp sxp hx hy
  by_cases h : x < y
  · have HC : Hid (Nt.cmpI (x : Int) y = -1) := by show Nt.cmpI _ _ = _; unfold Nt.cmpI; rw [if_pos (by omega)]
    have HL : Hid (x < y) := h
    clear h
    go_enter Tryz.func125, Tryz.ntmps125
    go_wp2_with (first
      | (go_at_call 122; refine (NCmp a b x y HF.out.2.1 HF.out.2.2 (lim512 HS.out.1) (lim512 HS.out.2.1) (-1) HC.out).mono ?_; rintro e w1 ⟨rfl, hb1⟩; have H1 : Hid (Below w.heap.size w w1) := hb1; clear hb1)
      | (go_at_call 138; refine (NAdd a f x p (HF.out.2.1.below H1.out) (HF.out.1.1.below H1.out) HS.out.1 HS.out.2.2.1).mono ?_; rintro e w2 ⟨r2, rfl, hr2, hb2⟩; have H2 : Hid (Nb w2 r2 (x + p) ∧ Below w.heap.size w w2) := ⟨hr2, below_via H1.out hb2 (Nat.le_refl _)⟩; clear hr2 hb2)
      | (go_at_call 139; refine (NSub _ b (x + p) y H2.out.1 (HF.out.2.2.below H2.out.2) (lim512 HS.out.2.2.2) (lim512 HS.out.2.1) (by have := HY.out; omega)).mono ?_; rintro e w3 ⟨r3, rfl, hr3, hb3⟩; have H3 : Hid (Nb w3 r3 (x + p - y) ∧ Below w.heap.size w w3) := ⟨hr3, below_via H2.out.2 hb3 (Nat.le_refl _)⟩; clear hr3 hb3))
    go_ret
    exact ⟨_, rfl, by rw [HE.out, if_pos HL.out]; exact H3.out.1, H3.out.2⟩
  · have HC : Hid (∃ c : Int, Nt.cmpI (x : Int) y = c ∧ decide (c < 0) = false) := ⟨_, rfl, by unfold Nt.cmpI; rw [if_neg (by omega)]; split <;> decide⟩
    have HL : Hid (¬ x < y) := h
    clear h
    obtain ⟨c, hc, d⟩ := HC.out
    have HC2 : Hid (Nt.cmpI (x : Int) y = c) := hc
    clear hc HC
    go_enter Tryz.func125, Tryz.ntmps125
    go_wp2_with (first
      | (go_at_call 122; refine (NCmp a b x y HF.out.2.1 HF.out.2.2 (lim512 HS.out.1) (lim512 HS.out.2.1) c HC2.out).mono ?_; rintro e w1 ⟨rfl, hb1⟩; have H1 : Hid (Below w.heap.size w w1) := hb1; clear hb1)
      | (go_at_call 139; refine (NSub a b x y (HF.out.2.1.below H1.out) (HF.out.2.2.below H1.out) (lim512 HS.out.1) (lim512 HS.out.2.1) (by have := HL.out; omega)).mono ?_; rintro e w3 ⟨r3, rfl, hr3, hb3⟩; have H3 : Hid (Nb w3 r3 (x - y) ∧ Below w.heap.size w w3) := ⟨hr3, below_via H1.out hb3 (Nat.le_refl _)⟩; clear hr3 hb3))
    go_ret
    exact ⟨_, rfl, by rw [HE.out, if_neg HL.out]; exact H3.out.1, H3.out.2⟩
set_option maxHeartbeats 1000000 in
theorem Ftimes {w : World} (f a b : Value) (p x y : Nat) (hf : Fld w f p) (ha : Nb w a x) (hb : Nb w b y) (hx : x < p) (hy : y < p) :
    Calls Tryz.prog 126 #[f, a, b] w fun e w' => ∃ r, e = .returned r ∧ Nb w' r (fml p x y) ∧ Below w.heap.size w w' := by
  have sx := sm_of hf.2.2 hx
  have sy := sm_of hf.2.2 hy
  have sp : Sm p := by have := sm_two (x := 0) (y := p) hf.2.2 hf.2.1 (Nat.le_refl _); simpa using this
  have HF : Hid (Fld w f p ∧ Nb w a x ∧ Nb w b y) := ⟨hf, ha, hb⟩
  have HS : Hid (Sm x ∧ Sm y ∧ Sm p) := ⟨sx, sy, sp⟩
  clear hf ha hb sx sy sp hx hy
  go_enter Tryz.func126, Tryz.ntmps126
  go_wp2_with (first
    | (go_at_call 140; refine (NMul a b x y HF.out.2.1 HF.out.2.2 HS.out.1 HS.out.2.1).mono ?_; rintro e w1 ⟨r1, rfl, hr1, hl1, hb1⟩; have H1 : Hid (Nb w1 r1 (x * y) ∧ (lim (x * y)).length ≤ 64 ∧ Below w.heap.size w w1) := ⟨hr1, hl1, hb1⟩; clear hr1 hb1 hl1)
    | (go_at_call 141; refine (NDivMod _ f (x * y) p H1.out.1 (HF.out.1.1.below H1.out.2.2) (by have := H1.out.2.1; omega) (lim512 HS.out.2.2) HF.out.1.2.1).mono ?_; rintro e w2 ⟨q2, r2, rfl, _, hr2, hb2⟩; have H2 : Hid (Nb w2 r2 (x * y % p) ∧ Below w.heap.size w w2) := ⟨hr2, below_via H1.out.2.2 hb2 (Nat.le_refl _)⟩; clear hr2 hb2))
  go_ret
  exact ⟨_, rfl, H2.out.1, H2.out.2⟩
theorem Fsquare {w : World} (f a : Value) (p x : Nat) (hf : Fld w f p) (ha : Nb w a x) (hx : x < p) :
    Calls Tryz.prog 127 #[f, a] w fun e w' => ∃ r, e = .returned r ∧ Nb w' r (fml p x x) ∧ Below w.heap.size w w' := by
  have HC := Ftimes f a a p x x hf ha ha hx hx
  clear hf ha hx
  go_enter Tryz.func127, Tryz.ntmps127
  go_wp2_with (go_at_call 126; refine HC.mono ?_; rintro e w1 ⟨r1, rfl, hr1, hb1⟩)
  go_ret
  exact ⟨_, rfl, hr1, hb1⟩
theorem Ftwice {w : World} (f a : Value) (p x : Nat) (hf : Fld w f p) (ha : Nb w a x) (hx : x < p) :
    Calls Tryz.prog 142 #[f, a] w fun e w' => ∃ r, e = .returned r ∧ Nb w' r (fad p x x) ∧ Below w.heap.size w w' := by
  have HC := Fplus f a a p x x hf ha ha hx hx
  clear hf ha hx
  go_enter Tryz.func142, Tryz.ntmps142
  go_wp2_with (go_at_call 124; refine HC.mono ?_; rintro e w1 ⟨r1, rfl, hr1, hb1⟩)
  go_ret
  exact ⟨_, rfl, hr1, hb1⟩
theorem Fthrice {w : World} (f a : Value) (p x : Nat) (hf : Fld w f p) (ha : Nb w a x) (hx : x < p) :
    Calls Tryz.prog 128 #[f, a] w fun e w' => ∃ r, e = .returned r ∧ Nb w' r (fad p (fad p x x) x) ∧ Below w.heap.size w w' := by
  have HF : Hid (Fld w f p ∧ Nb w a x ∧ x < p) := ⟨hf, ha, hx⟩
  clear hf ha hx
  go_enter Tryz.func128, Tryz.ntmps128
  go_wp2_with (first
    | (go_at_call 142; refine (Ftwice f a p x HF.out.1 HF.out.2.1 HF.out.2.2).mono ?_; rintro e w1 ⟨r1, rfl, hr1, hb1⟩; have H1 : Hid (Nb w1 r1 (fad p x x) ∧ Below w.heap.size w w1) := ⟨hr1, hb1⟩; clear hr1 hb1)
    | (go_at_call 124; refine (Fplus f _ a p (fad p x x) x (HF.out.1.below H1.out.2) H1.out.1 (HF.out.2.1.below H1.out.2) (fad_lt HF.out.1.2.1) HF.out.2.2).mono ?_; rintro e w2 ⟨r2, rfl, hr2, hb2⟩; have H2 : Hid (Below w.heap.size w w2) := below_via H1.out.2 hb2 (Nat.le_refl _); clear hb2))
  go_ret
  exact ⟨_, rfl, hr2, H2.out⟩
end Go.Proofs.YtillkhjihggcjaaGreatDoor
/-
  Curve: triples: whether one is far; the sum of two with one Z; twice one.
-/
namespace Go.Proofs.YtillkhjihggcjaaGreatDoor
open Go.RowKit
set_option maxRecDepth 20000
/-- What a block without numbers has turned into turns no number. -/
theorem sl_upd {k : IntKind} {T : TypeId} {w w' : World} {b : Nat} {cs : List Value} {v : Value} {xs : List Int} (h : Sl k w v xs) (hB : Blk T w b cs) (hc : ∀ c ∈ cs, ∀ n, c ≠ .int k n) (hU : Upd w w' b) : Sl k w' v xs := by
  obtain ⟨a, c, rfl, hl, h1⟩ := h
  refine ⟨a, c, rfl, hl, ?_⟩
  by_cases h0 : xs = []
  · exact .inl h0
  rcases h1 with h1 | ⟨b', off, rfl, hb, hr⟩
  · exact absurd h1 h0
  refine .inr ⟨b', off, rfl, Nat.lt_of_lt_of_le hb hU.size, hU.rd hb hr fun he => ?_⟩
  subst he
  have h2 := hr 0 (List.length_pos_iff.2 h0)
  rw [hB.cell] at h2
  exact hc _ (List.mem_of_getElem? h2) _ rfl
theorem Nb.upd {T : TypeId} {w w' : World} {b : Nat} {cs : List Value} {v : Value} {x : Nat} (h : Nb w v x) (hB : Blk T w b cs) (hc : ∀ c ∈ cs, ∀ n, c ≠ .int .u32 n) (hU : Upd w w' b) : Nb w' v x := sl_upd h hB hc hU
end Go.Proofs.YtillkhjihggcjaaGreatDoor
/-
  Curve: the sum of two triples with one Z; twice a triple.
-/
namespace Go.Proofs.YtillkhjihggcjaaGreatDoor
open Go.RowKit
set_option maxRecDepth 20000
end Go.Proofs.YtillkhjihggcjaaGreatDoor
/-
  Curve: the far point; a point as a triple.
-/
namespace Go.Proofs.YtillkhjihggcjaaGreatDoor
open Go.RowKit
set_option maxRecDepth 20000
theorem bits0 {X : List Int} (u : U32s X) : bitLen (val X).toNat = 0 ↔ val X = 0 := by
  have h0 := val_nonneg u
  constructor
  · intro h
    by_cases hv : val X = 0
    · exact hv
    · exfalso
      have h1 : (val X).toNat ≠ 0 := by omega
      have h2 := bitLen_spec (val X).toNat
      rw [h] at h2
      simp at h2
      omega
  · intro h; rw [h]; decide
/-- Both coordinates are 0. -/
def farB (X Y : List Int) : Bool := decide (val X = 0 ∧ val Y = 0)
set_option maxHeartbeats 1000000 in
theorem PisFar {w : World} (vx vy : Value) (X Y : List Int) (hX : Sl .u32 w vx X) (hY : Sl .u32 w vy Y) (uX : U32s X) (uY : U32s Y) (lX : X.length ≤ 1000000) (lY : Y.length ≤ 1000000) :
    Calls Tryz.prog 104 #[.agg #[vx, vy]] w fun e w' => e = .returned (.bool (farB X Y)) ∧ Below w.heap.size w w' := by
  have HX : Hid (∀ W, Below w.heap.size w W → Calls Tryz.prog 118 #[vx] W fun e w' => e = .returned (.int .i64 (bitLen (val X).toNat)) ∧ Below W.heap.size W w') := fun W hW => Nt.Bits_any X vx W (below_sl hW hX) uX (by omega)
  have HY : Hid (∀ W, Below w.heap.size w W → Calls Tryz.prog 118 #[vy] W fun e w' => e = .returned (.int .i64 (bitLen (val Y).toNat)) ∧ Below W.heap.size W w') := fun W hW => Nt.Bits_any Y vy W (below_sl hW hY) uY (by omega)
  have HF : Hid (farB X Y = (((bitLen (val X).toNat : Int) == 0) && ((bitLen (val Y).toNat : Int) == 0))) := by
    show _ = _
    unfold farB
    have h1 := bits0 uX
    have h2 := bits0 uY
    by_cases a : val X = 0 <;> by_cases b : val Y = 0
    · have e1 := h1.2 a; have e2 := h2.2 b; rw [e1, e2]; simp [a, b]
    · simp [a, b]; intro _; exact fun h => b (h2.1 (by omega))
    · simp [a, b]; intro h; exact absurd (h1.1 (by omega)) a
    · simp [a, b]; intro h; exact absurd (h1.1 (by omega)) a
  obtain ⟨x, hx⟩ : ∃ x, bitLen (val X).toNat = x := ⟨_, rfl⟩
  obtain ⟨y, hy⟩ : ∃ y, bitLen (val Y).toNat = y := ⟨_, rfl⟩
  rw [hx] at HX HF
  rw [hy] at HY HF
  clear hX hY uX uY lX lY hx hy
  go_enter Tryz.func104, Tryz.ntmps104
  go_upto_region 1 with (refine wpList_boxR rfl 44 (.tmp 0) rfl #[vx, vy] rfl ?_)
  refine wp_gen (fun W => Blk 44 W w.heap.size [vx, vy] ∧ Below w.heap.size w W) ⟨Blk.new _ w _, al1 _⟩ ?_
  rintro W2 ⟨hB, hBw⟩
  have hc0 : W2.cell? ⟨w.heap.size, 0, none⟩ = some vx := hB.cell 0
  have H2 : Hid (Below w.heap.size w W2 ∧ ∀ W3, Below W2.heap.size W2 W3 → W3.cell? ⟨w.heap.size, 1, none⟩ = some vy ∧ Below w.heap.size w W3) := ⟨hBw, fun W3 h3 => ⟨(below_blk h3 hB.lt hB).cell 1, below_via hBw h3 (Nat.le_refl _)⟩⟩
  clear hB hBw
  by_cases h0 : x = 0
  · have d0 : ((x : Int) == 0) = true := by simp [h0]
    have HF2 : Hid (farB X Y = ((y : Int) == 0)) := by show _ = _; rw [HF.out, d0]; rfl
    clear h0 HF
    go_wp2_with fail
    refine (HX.out _ H2.out.1).mono ?_
    rintro e w3 ⟨rfl, hb3⟩
    have hc1 := (H2.out.2 _ hb3).1
    have H3 : Hid (Below w.heap.size w w3) := (H2.out.2 _ hb3).2
    clear hb3 hc0
    go_wp2_with (go_at_call 118; refine (HY.out _ H3.out).mono ?_; rintro e w4 ⟨rfl, hb4⟩; have H4 : Hid (Below w.heap.size w w4) := below_via H3.out hb4 (Nat.le_refl _); clear hb4)
    go_ret
    exact ⟨by rw [HF2.out]; rfl, H4.out⟩
  · have d0 : ((x : Int) == 0) = false := by simp; exact h0
    have HF2 : Hid (farB X Y = false) := by show _ = _; rw [HF.out, d0]; rfl
    clear h0 HF
    go_wp2_with (go_at_call 118; refine (HX.out _ H2.out.1).mono ?_; rintro e w3 ⟨rfl, hb3⟩; have H3 : Hid (Below w.heap.size w w3) := (H2.out.2 _ hb3).2; clear hb3)
    go_ret
    exact ⟨by rw [HF2.out]; rfl, H3.out⟩
end Go.Proofs.YtillkhjihggcjaaGreatDoor
/-
  Curve: the sum of two triples.
-/
namespace Go.Proofs.YtillkhjihggcjaaGreatDoor
open Go.RowKit
set_option maxRecDepth 20000
end Go.Proofs.YtillkhjihggcjaaGreatDoor
/-
  Curve: inverses; a triple's point.
-/
namespace Go.Proofs.YtillkhjihggcjaaGreatDoor
open Go.RowKit
set_option maxRecDepth 20000
theorem Tryz.sizePt : (Tryz.prog.info? 44).map (·.size) = some 2 := by kernel_rfl
theorem Blk.put2 {T : TypeId} {w : World} {b : Nat} {u0 u1 : Value} (h : Blk T w b [u0, u1]) (v0 v1 : Value) :
    Blk T ((w.setCell ⟨b, 0, none⟩ v0).setCell ⟨b, 1, none⟩ v1) b [v0, v1] ∧ Upd w ((w.setCell ⟨b, 0, none⟩ v0).setCell ⟨b, 1, none⟩ v1) b :=
  ⟨(h.set 0 v0).set 1 v1, (Upd.set w b 0 _).trans (Upd.set _ b 1 _)⟩
end Go.Proofs.YtillkhjihggcjaaGreatDoor
