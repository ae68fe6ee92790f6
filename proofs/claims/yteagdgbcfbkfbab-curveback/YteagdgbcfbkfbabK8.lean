/-
  Curve: numbers in memory by their value; package nat by values.
-/
import Derived.Deep.RegionHeld3
import Derived.Test.YteagdgbcfbkfbabK7
namespace Go.Proofs.Yteagdgbcfbkfbab
open Go.RowKit
set_option maxRecDepth 20000
theorem wp_gen {P : Program} {c : Code} {Q : Exit → Act → World → Prop} {a : Act} {W : World} (R : World → Prop) (hR : R W) (h : ∀ W', R W' → Code.wp P c Q a W') : Code.wp P c Q a W := h W hR
theorem wpList_boxR {P : Program} {ops : Array Oper} {rest : List Oper} {o : Oper} {a : Act} {w : World} {Q : Exit → Act → World → Prop} (hg : o.guard = none) (t : TypeId) (x : Operand) (ho : o.op = .box t x) (cells : Array Value) (hx : a.eval x = .agg cells)
    (h : wpList P ops Q rest (a.put o.dst (.pointer (some ⟨w.heap.size, 0, none⟩))) (w.alloc (.cells cells t))) : wpList P ops Q (o :: rest) a w := by
  refine wpList_plain hg fun K hK => ?_
  unfold Oper.wp execOp
  simp only [ho, hx, Sem.run_bind, Instr.box, newVar, newRow, run_newObj_alloc, Sem.run_pure, Result.andThen_ok]
  exact hK _ _ h
/-- The value reads the limbs of x. -/
def Nb (w : World) (v : Value) (x : Nat) : Prop := Sl .u32 w v (lim x)
theorem Nb.below {w w' : World} {v : Value} {x : Nat} (h : Nb w v x) (hb : Below w.heap.size w w') : Nb w' v x := below_sl hb h
theorem Nb.sl {w : World} {v : Value} {x : Nat} (h : Nb w v x) : Sl .u32 w v (lim x) := h
theorem Nb.form {w : World} {v : Value} {x : Nat} (h : Nb w v x) : ∃ a c, v = .slice a (lim x).length c := by
  obtain ⟨a, c, h1, _⟩ := h; exact ⟨a, c, h1⟩
/-- A number of at most 1024 binary digits. -/
def Sm (x : Nat) : Prop := x < 4294967296 ^ 32
theorem lim_sm {x : Nat} (h : Sm x) : (lim x).length ≤ 32 := by
  refine lim_len_le ?_
  have : ((x : Nat) : Int) < ((4294967296 ^ 32 : Nat) : Int) := Int.ofNat_lt.2 h
  rw [Int.natCast_pow] at this
  exact this
theorem lim0 {x : Nat} : (lim x).length = 0 ↔ x = 0 := by
  constructor
  · intro h
    have h1 : lim x = [] := List.eq_nil_of_length_eq_zero h
    have h2 := val_lim x; rw [h1] at h2; simp [val] at h2; omega
  · rintro rfl; rfl
theorem nil_nb (w : World) : Nb w (.slice none 0 0) 0 := ⟨none, 0, rfl, Nat.le_refl _, .inl rfl⟩
theorem NAdd {w : World} (a b : Value) (x y : Nat) (ha : Nb w a x) (hb : Nb w b y) (hx : Sm x) (hy : Sm y) :
    Calls Try.prog 43 #[a, b] w fun e w' => ∃ r, e = .returned (.tuple #[r, .int .i64 0]) ∧ Nb w' r (x + y) ∧ Below w.heap.size w w' := by
  refine (Nt.Add_any (lim x) (lim y) a b w ha hb (lim_u32 _) (lim_u32 _)).mono ?_
  rintro e w' ⟨⟨r, rfl, ho⟩, hB⟩
  have l1 := lim_sm hx
  have l2 := lim_sm hy
  have l3 : (lim (x + y)).length ≤ 33 := by
    refine lim_len_le ?_
    have : ((x + y : Nat) : Int) < ((4294967296 ^ 33 : Nat) : Int) := Int.ofNat_lt.2 (by
      have := hx; have := hy; unfold Sm at *
      rw [Nat.pow_succ]; omega)
    rw [Int.natCast_pow] at this
    exact this
  have e1 : Nt.addS (lim x) (lim y) = (lim (x + y), 0) := by
    unfold Nt.addS; rw [if_neg (by omega), val_lim, val_lim]
    have : ((x : Int) + (y : Int)).toNat = x + y := by omega
    rw [this]; unfold Nt.fit; rw [if_neg (by omega)]
  rw [e1] at ho ⊢
  exact ⟨r, rfl, ho.sl, hB⟩
theorem NSub {w : World} (a b : Value) (x y : Nat) (ha : Nb w a x) (hb : Nb w b y) (hx : (lim x).length ≤ 512) (hy : (lim y).length ≤ 512) (hle : y ≤ x) :
    Calls Try.prog 44 #[a, b] w fun e w' => ∃ r, e = .returned (.tuple #[r, .int .i64 0]) ∧ Nb w' r (x - y) ∧ Below w.heap.size w w' := by
  refine (Nt.Sub_any (lim x) (lim y) a b w ha hb (lim_u32 _) (lim_u32 _)).mono ?_
  rintro e w' ⟨⟨r, rfl, ho⟩, hB⟩
  have e1 : Nt.subS (lim x) (lim y) = (lim (x - y), 0) := by
    unfold Nt.subS; rw [if_neg (by omega), val_lim, val_lim, if_neg (by omega)]
    have : ((x : Int) - (y : Int)).toNat = x - y := by omega
    rw [this]
  rw [e1] at ho ⊢
  exact ⟨r, rfl, ho.sl, hB⟩
theorem NMul {w : World} (a b : Value) (x y : Nat) (ha : Nb w a x) (hb : Nb w b y) (hx : Sm x) (hy : Sm y) :
    Calls Try.prog 51 #[a, b] w fun e w' => ∃ r, e = .returned (.tuple #[r, .int .i64 0]) ∧ Nb w' r (x * y) ∧ (lim (x * y)).length ≤ 64 ∧ Below w.heap.size w w' := by
  refine (Nt.Mul_any (lim x) (lim y) a b w ha hb (lim_u32 _) (lim_u32 _)).mono ?_
  rintro e w' ⟨⟨r, rfl, ho⟩, hB⟩
  have l1 := lim_sm hx
  have l2 := lim_sm hy
  have l3 : (lim (x * y)).length ≤ 64 := by
    refine lim_len_le ?_
    have : ((x * y : Nat) : Int) < ((4294967296 ^ 64 : Nat) : Int) := Int.ofNat_lt.2 (by
      have e : 4294967296 ^ 64 = 4294967296 ^ 32 * 4294967296 ^ 32 := by rw [← Nat.pow_add]
      rw [e]; exact Nat.mul_lt_mul'' hx hy)
    rw [Int.natCast_pow] at this
    exact this
  have e1 : Nt.mulS (lim x) (lim y) = (lim (x * y), 0) := by
    unfold Nt.mulS; rw [if_neg (by omega), val_lim, val_lim]
    have : ((x : Int) * (y : Int)).toNat = x * y := by rw [← Int.natCast_mul]; rfl
    rw [this]; unfold Nt.fit; rw [if_neg (by omega)]
  rw [e1] at ho ⊢
  exact ⟨r, rfl, ho.sl, l3, hB⟩
theorem NDivMod {w : World} (a b : Value) (x y : Nat) (ha : Nb w a x) (hb : Nb w b y) (hx : (lim x).length ≤ 512) (hy : (lim y).length ≤ 512) (h0 : 0 < y) :
    Calls Try.prog 52 #[a, b] w fun e w' => ∃ q r, e = .returned (.tuple #[q, r, .int .i64 0]) ∧ Nb w' q (x / y) ∧ Nb w' r (x % y) ∧ Below w.heap.size w w' := by
  refine (Nt.DivMod_any (lim x) (lim y) a b w ha hb (lim_u32 _) (lim_u32 _) (.inr Nt.long_ok)).mono ?_
  rintro e w' ⟨⟨q, r, rfl, hq, ho⟩, hB⟩
  have e1 : Nt.divS (lim x) (lim y) = (lim (x / y), lim (x % y), 0) := by
    unfold Nt.divS; rw [if_neg (by omega), val_lim, val_lim, if_neg (by omega)]
    have h1 : ((x : Int) / (y : Int)).toNat = x / y := by rw [← Int.natCast_ediv]; rfl
    have h2 : ((x : Int) % (y : Int)).toNat = x % y := by rw [← Int.natCast_emod]; rfl
    rw [h1, h2]
  rw [e1] at hq ho ⊢
  exact ⟨q, r, rfl, hq.sl, ho.sl, hB⟩
theorem NDivMod_l {w : World} (a b : Value) (X : List Int) (y : Nat) (ha : Sl .u32 w a X) (ux : U32s X) (hb : Nb w b y) (hx : X.length ≤ 512) (hy : (lim y).length ≤ 512) (h0 : 0 < y) :
    Calls Try.prog 52 #[a, b] w fun e w' => ∃ q r, e = .returned (.tuple #[q, r, .int .i64 0]) ∧ Nb w' r ((val X).toNat % y) ∧ Below w.heap.size w w' := by
  refine (Nt.DivMod_any X (lim y) a b w ha hb ux (lim_u32 _) (.inr Nt.long_ok)).mono ?_
  rintro e w' ⟨⟨q, r, rfl, hq, ho⟩, hB⟩
  have e1 : Nt.divS X (lim y) = (lim ((val X).toNat / y), lim ((val X).toNat % y), 0) := by
    obtain ⟨x, hx2⟩ : ∃ x : Nat, val X = x := ⟨(val X).toNat, by have := val_nonneg ux; omega⟩
    unfold Nt.divS; rw [if_neg (by omega), val_lim, hx2, if_neg (by omega)]
    have h1 : ((x : Int) / (y : Int)).toNat = x / y := by rw [← Int.natCast_ediv]; rfl
    have h2 : ((x : Int) % (y : Int)).toNat = x % y := by rw [← Int.natCast_emod]; rfl
    rw [h1, h2]; rfl
  rw [e1] at hq ho ⊢
  exact ⟨q, r, rfl, ho.sl, hB⟩
theorem NCmp {w : World} (a b : Value) (x y : Nat) (ha : Nb w a x) (hb : Nb w b y) (hx : (lim x).length ≤ 512) (hy : (lim y).length ≤ 512) (c : Int) (hc : Nt.cmpI x y = c) :
    Calls Try.prog 37 #[a, b] w fun e w' => e = .returned (.int .i64 c) ∧ Below w.heap.size w w' := by
  refine (Nt.Cmp_any (lim x) (lim y) a b w ha hb (lim_u32 _) (lim_u32 _) (by omega) (by omega)).mono ?_
  rintro e w' ⟨rfl, hB⟩
  rw [val_lim, val_lim, hc]
  exact ⟨rfl, hB⟩
end Go.Proofs.Yteagdgbcfbkfbab
/-
  Curve: sums, differences, products modulo a prime.
-/
namespace Go.Proofs.Yteagdgbcfbkfbab
open Go.RowKit
set_option maxRecDepth 20000
def fad (p x y : Nat) : Nat := (x + y) % p
def fsb (p x y : Nat) : Nat := (x + (p - y)) % p
def fml (p x y : Nat) : Nat := x * y % p
theorem fad_lt {p x y : Nat} (h : 0 < p) : fad p x y < p := Nat.mod_lt _ h
theorem fsb_lt {p x y : Nat} (h : 0 < p) : fsb p x y < p := Nat.mod_lt _ h
theorem fml_lt {p x y : Nat} (h : 0 < p) : fml p x y < p := Nat.mod_lt _ h
theorem fad_eq {p x y : Nat} (hx : x < p) (hy : y < p) : fad p x y = if p ≤ x + y then x + y - p else x + y := by
  unfold fad
  split
  · rename_i h; rw [Nat.mod_eq_sub_mod h, Nat.mod_eq_of_lt (by omega)]
  · rename_i h; rw [Nat.mod_eq_of_lt (by omega)]
theorem fsb_eq {p x y : Nat} (hx : x < p) (hy : y < p) : fsb p x y = if x < y then x + p - y else x - y := by
  unfold fsb
  split
  · rename_i h; rw [Nat.mod_eq_of_lt (by omega)]; omega
  · rename_i h; rw [Nat.mod_eq_sub_mod (by omega), Nat.mod_eq_of_lt (by omega)]; omega
/-- A prime as a field of the curve's: what is asked of it here. -/
def Fld (w : World) (f : Value) (p : Nat) : Prop := Nb w f p ∧ 0 < p ∧ p < 4294967296 ^ 12
theorem Fld.below {w w' : World} {f : Value} {p : Nat} (h : Fld w f p) (hb : Below w.heap.size w w') : Fld w' f p := ⟨h.1.below hb, h.2⟩
theorem sm_of {x p : Nat} (hp : p < 4294967296 ^ 12) (h : x < p) : Sm x := by
  have : (4294967296 : Nat) ^ 12 ≤ 4294967296 ^ 32 := Nat.pow_le_pow_right (by decide) (by decide)
  unfold Sm; omega
theorem sm_two {x y p : Nat} (hp : p < 4294967296 ^ 12) (h : x < p) (h' : y ≤ p) : Sm (x + y) := by
  have : (4294967296 : Nat) ^ 32 = 4294967296 ^ 12 * 4294967296 ^ 20 := by rw [← Nat.pow_add]
  have h2 : 2 ≤ (4294967296 : Nat) ^ 20 := by have := Nat.pow_le_pow_right (n := 4294967296) (i := 1) (j := 20) (by decide) (by decide); omega
  unfold Sm
  rw [this]
  refine Nat.lt_of_lt_of_le (m := 4294967296 ^ 12 * 2) (by omega) (Nat.mul_le_mul_left _ h2)
theorem lim512 {x : Nat} (h : Sm x) : (lim x).length ≤ 512 := by have := lim_sm h; omega
set_option maxHeartbeats 1000000 in
theorem Fplus {w : World} (f a b : Value) (p x y : Nat) (hf : Fld w f p) (ha : Nb w a x) (hb : Nb w b y) (hx : x < p) (hy : y < p) :
    Calls Try.prog 38 #[f, a, b] w fun e w' => ∃ r, e = .returned r ∧ Nb w' r (fad p x y) ∧ Below w.heap.size w w' := by
  have sx := sm_of hf.2.2 hx
  have sy := sm_of hf.2.2 hy
  have sp : Sm p := by have := sm_two (x := 0) (y := p) hf.2.2 hf.2.1 (Nat.le_refl _); simpa using this
  have sxy := sm_two hf.2.2 hx (Nat.le_of_lt hy)
  have HF : Hid (Fld w f p ∧ Nb w a x ∧ Nb w b y) := ⟨hf, ha, hb⟩
  have HS : Hid (Sm x ∧ Sm y ∧ Sm p ∧ Sm (x + y)) := ⟨sx, sy, sp, sxy⟩
  have HE : Hid (fad p x y = if p ≤ x + y then x + y - p else x + y) := fad_eq hx hy
  clear hf ha hb sx sy sp sxy hx hy
  by_cases h : p ≤ x + y
  · have HC : Hid (∃ c : Int, Nt.cmpI ((x + y : Nat) : Int) p = c ∧ decide (c ≥ 0) = true) := ⟨_, rfl, by unfold Nt.cmpI; rw [if_neg (by omega)]; split <;> decide⟩
    have HL : Hid (p ≤ x + y) := h
    clear h
    obtain ⟨c, hc, d⟩ := HC.out
    have HC2 : Hid (Nt.cmpI ((x + y : Nat) : Int) p = c) := hc
    clear hc HC
    go_enter Try.func38, Try.ntmps38
    go_wp2_with (first
      | (go_at_call 43; refine (NAdd a b x y HF.out.2.1 HF.out.2.2 HS.out.1 HS.out.2.1).mono ?_; rintro e w1 ⟨r1, rfl, hr1, hb1⟩; have H1 : Hid (Nb w1 r1 (x + y) ∧ Below w.heap.size w w1) := ⟨hr1, hb1⟩; clear hr1 hb1)
      | (go_at_call 37; refine (NCmp _ f (x + y) p H1.out.1 (HF.out.1.1.below H1.out.2) (lim512 HS.out.2.2.2) (lim512 HS.out.2.2.1) c HC2.out).mono ?_; rintro e w2 ⟨rfl, hb2⟩; have H2 : Hid (Nb w2 r1 (x + y) ∧ Below w.heap.size w w2) := ⟨H1.out.1.below hb2, below_via H1.out.2 hb2 (Nat.le_refl _)⟩; clear hb2)
      | (go_at_call 44; refine (NSub _ f (x + y) p H2.out.1 (HF.out.1.1.below H2.out.2) (lim512 HS.out.2.2.2) (lim512 HS.out.2.2.1) HL.out).mono ?_; rintro e w3 ⟨r3, rfl, hr3, hb3⟩; have H3 : Hid (Nb w3 r3 (x + y - p) ∧ Below w.heap.size w w3) := ⟨hr3, below_via H2.out.2 hb3 (Nat.le_refl _)⟩; clear hr3 hb3))
    go_ret
    exact ⟨_, rfl, by rw [HE.out, if_pos HL.out]; exact H3.out.1, H3.out.2⟩
  · have HC : Hid (∃ c : Int, Nt.cmpI ((x + y : Nat) : Int) p = c ∧ decide (c ≥ 0) = false) := ⟨_, rfl, by unfold Nt.cmpI; rw [if_pos (by omega)]; decide⟩
    have HL : Hid (¬ p ≤ x + y) := h
    clear h
    obtain ⟨c, hc, d⟩ := HC.out
    have HC2 : Hid (Nt.cmpI ((x + y : Nat) : Int) p = c) := hc
    clear hc HC
    go_enter Try.func38, Try.ntmps38
    go_wp2_with (first
      | (go_at_call 43; refine (NAdd a b x y HF.out.2.1 HF.out.2.2 HS.out.1 HS.out.2.1).mono ?_; rintro e w1 ⟨r1, rfl, hr1, hb1⟩; have H1 : Hid (Nb w1 r1 (x + y) ∧ Below w.heap.size w w1) := ⟨hr1, hb1⟩; clear hr1 hb1)
      | (go_at_call 37; refine (NCmp _ f (x + y) p H1.out.1 (HF.out.1.1.below H1.out.2) (lim512 HS.out.2.2.2) (lim512 HS.out.2.2.1) c HC2.out).mono ?_; rintro e w2 ⟨rfl, hb2⟩; have H2 : Hid (Nb w2 r1 (x + y) ∧ Below w.heap.size w w2) := ⟨H1.out.1.below hb2, below_via H1.out.2 hb2 (Nat.le_refl _)⟩; clear hb2))
    go_ret
    exact ⟨_, rfl, by rw [HE.out, if_neg HL.out]; exact H2.out.1, H2.out.2⟩
set_option maxHeartbeats 1000000 in
theorem Fminus {w : World} (f a b : Value) (p x y : Nat) (hf : Fld w f p) (ha : Nb w a x) (hb : Nb w b y) (hx : x < p) (hy : y < p) :
    Calls Try.prog 27 #[f, a, b] w fun e w' => ∃ r, e = .returned r ∧ Nb w' r (fsb p x y) ∧ Below w.heap.size w w' := by
  have sx := sm_of hf.2.2 hx
  have sy := sm_of hf.2.2 hy
  have sp : Sm p := by have := sm_two (x := 0) (y := p) hf.2.2 hf.2.1 (Nat.le_refl _); simpa using this
  have sxp := sm_two hf.2.2 hx (Nat.le_refl p)
  have HF : Hid (Fld w f p ∧ Nb w a x ∧ Nb w b y) := ⟨hf, ha, hb⟩
  have HS : Hid (Sm x ∧ Sm y ∧ Sm p ∧ Sm (x + p)) := ⟨sx, sy, sp, sxp⟩
  have HE : Hid (fsb p x y = if x < y then x + p - y else x - y) := fsb_eq hx hy
  have HY : Hid (y < p) := hy
  clear hf ha hb sx sy sp sxp hx hy
  by_cases h : x < y
  · have HC : Hid (Nt.cmpI (x : Int) y = -1) := by show Nt.cmpI _ _ = _; unfold Nt.cmpI; rw [if_pos (by omega)]
    have HL : Hid (x < y) := h
    clear h
    go_enter Try.func27, Try.ntmps27
    go_wp2_with (first
      | (go_at_call 37; refine (NCmp a b x y HF.out.2.1 HF.out.2.2 (lim512 HS.out.1) (lim512 HS.out.2.1) (-1) HC.out).mono ?_; rintro e w1 ⟨rfl, hb1⟩; have H1 : Hid (Below w.heap.size w w1) := hb1; clear hb1)
      | (go_at_call 43; refine (NAdd a f x p (HF.out.2.1.below H1.out) (HF.out.1.1.below H1.out) HS.out.1 HS.out.2.2.1).mono ?_; rintro e w2 ⟨r2, rfl, hr2, hb2⟩; have H2 : Hid (Nb w2 r2 (x + p) ∧ Below w.heap.size w w2) := ⟨hr2, below_via H1.out hb2 (Nat.le_refl _)⟩; clear hr2 hb2)
      | (go_at_call 44; refine (NSub _ b (x + p) y H2.out.1 (HF.out.2.2.below H2.out.2) (lim512 HS.out.2.2.2) (lim512 HS.out.2.1) (by have := HY.out; omega)).mono ?_; rintro e w3 ⟨r3, rfl, hr3, hb3⟩; have H3 : Hid (Nb w3 r3 (x + p - y) ∧ Below w.heap.size w w3) := ⟨hr3, below_via H2.out.2 hb3 (Nat.le_refl _)⟩; clear hr3 hb3))
    go_ret
    exact ⟨_, rfl, by rw [HE.out, if_pos HL.out]; exact H3.out.1, H3.out.2⟩
  · have HC : Hid (∃ c : Int, Nt.cmpI (x : Int) y = c ∧ decide (c < 0) = false) := ⟨_, rfl, by unfold Nt.cmpI; rw [if_neg (by omega)]; split <;> decide⟩
    have HL : Hid (¬ x < y) := h
    clear h
    obtain ⟨c, hc, d⟩ := HC.out
    have HC2 : Hid (Nt.cmpI (x : Int) y = c) := hc
    clear hc HC
    go_enter Try.func27, Try.ntmps27
    go_wp2_with (first
      | (go_at_call 37; refine (NCmp a b x y HF.out.2.1 HF.out.2.2 (lim512 HS.out.1) (lim512 HS.out.2.1) c HC2.out).mono ?_; rintro e w1 ⟨rfl, hb1⟩; have H1 : Hid (Below w.heap.size w w1) := hb1; clear hb1)
      | (go_at_call 44; refine (NSub a b x y (HF.out.2.1.below H1.out) (HF.out.2.2.below H1.out) (lim512 HS.out.1) (lim512 HS.out.2.1) (by have := HL.out; omega)).mono ?_; rintro e w3 ⟨r3, rfl, hr3, hb3⟩; have H3 : Hid (Nb w3 r3 (x - y) ∧ Below w.heap.size w w3) := ⟨hr3, below_via H1.out hb3 (Nat.le_refl _)⟩; clear hr3 hb3))
    go_ret
    exact ⟨_, rfl, by rw [HE.out, if_neg HL.out]; exact H3.out.1, H3.out.2⟩
set_option maxHeartbeats 1000000 in
theorem Ftimes {w : World} (f a b : Value) (p x y : Nat) (hf : Fld w f p) (ha : Nb w a x) (hb : Nb w b y) (hx : x < p) (hy : y < p) :
    Calls Try.prog 39 #[f, a, b] w fun e w' => ∃ r, e = .returned r ∧ Nb w' r (fml p x y) ∧ Below w.heap.size w w' := by
  have sx := sm_of hf.2.2 hx
  have sy := sm_of hf.2.2 hy
  have sp : Sm p := by have := sm_two (x := 0) (y := p) hf.2.2 hf.2.1 (Nat.le_refl _); simpa using this
  have HF : Hid (Fld w f p ∧ Nb w a x ∧ Nb w b y) := ⟨hf, ha, hb⟩
  have HS : Hid (Sm x ∧ Sm y ∧ Sm p) := ⟨sx, sy, sp⟩
  clear hf ha hb sx sy sp hx hy
  go_enter Try.func39, Try.ntmps39
  go_wp2_with (first
    | (go_at_call 51; refine (NMul a b x y HF.out.2.1 HF.out.2.2 HS.out.1 HS.out.2.1).mono ?_; rintro e w1 ⟨r1, rfl, hr1, hl1, hb1⟩; have H1 : Hid (Nb w1 r1 (x * y) ∧ (lim (x * y)).length ≤ 64 ∧ Below w.heap.size w w1) := ⟨hr1, hl1, hb1⟩; clear hr1 hb1 hl1)
    | (go_at_call 52; refine (NDivMod _ f (x * y) p H1.out.1 (HF.out.1.1.below H1.out.2.2) (by have := H1.out.2.1; omega) (lim512 HS.out.2.2) HF.out.1.2.1).mono ?_; rintro e w2 ⟨q2, r2, rfl, _, hr2, hb2⟩; have H2 : Hid (Nb w2 r2 (x * y % p) ∧ Below w.heap.size w w2) := ⟨hr2, below_via H1.out.2.2 hb2 (Nat.le_refl _)⟩; clear hr2 hb2))
  go_ret
  exact ⟨_, rfl, H2.out.1, H2.out.2⟩
theorem Fsquare {w : World} (f a : Value) (p x : Nat) (hf : Fld w f p) (ha : Nb w a x) (hx : x < p) :
    Calls Try.prog 40 #[f, a] w fun e w' => ∃ r, e = .returned r ∧ Nb w' r (fml p x x) ∧ Below w.heap.size w w' := by
  have HC := Ftimes f a a p x x hf ha ha hx hx
  clear hf ha hx
  go_enter Try.func40, Try.ntmps40
  go_wp2_with (go_at_call 39; refine HC.mono ?_; rintro e w1 ⟨r1, rfl, hr1, hb1⟩)
  go_ret
  exact ⟨_, rfl, hr1, hb1⟩
theorem Ftwice {w : World} (f a : Value) (p x : Nat) (hf : Fld w f p) (ha : Nb w a x) (hx : x < p) :
    Calls Try.prog 53 #[f, a] w fun e w' => ∃ r, e = .returned r ∧ Nb w' r (fad p x x) ∧ Below w.heap.size w w' := by
  have HC := Fplus f a a p x x hf ha ha hx hx
  clear hf ha hx
  go_enter Try.func53, Try.ntmps53
  go_wp2_with (go_at_call 38; refine HC.mono ?_; rintro e w1 ⟨r1, rfl, hr1, hb1⟩)
  go_ret
  exact ⟨_, rfl, hr1, hb1⟩
theorem Fthrice {w : World} (f a : Value) (p x : Nat) (hf : Fld w f p) (ha : Nb w a x) (hx : x < p) :
    Calls Try.prog 41 #[f, a] w fun e w' => ∃ r, e = .returned r ∧ Nb w' r (fad p (fad p x x) x) ∧ Below w.heap.size w w' := by
  have HF : Hid (Fld w f p ∧ Nb w a x ∧ x < p) := ⟨hf, ha, hx⟩
  clear hf ha hx
  go_enter Try.func41, Try.ntmps41
  go_wp2_with (first
    | (go_at_call 53; refine (Ftwice f a p x HF.out.1 HF.out.2.1 HF.out.2.2).mono ?_; rintro e w1 ⟨r1, rfl, hr1, hb1⟩; have H1 : Hid (Nb w1 r1 (fad p x x) ∧ Below w.heap.size w w1) := ⟨hr1, hb1⟩; clear hr1 hb1)
    | (go_at_call 38; refine (Fplus f _ a p (fad p x x) x (HF.out.1.below H1.out.2) H1.out.1 (HF.out.2.1.below H1.out.2) (fad_lt HF.out.1.2.1) HF.out.2.2).mono ?_; rintro e w2 ⟨r2, rfl, hr2, hb2⟩; have H2 : Hid (Below w.heap.size w w2) := below_via H1.out.2 hb2 (Nat.le_refl _); clear hb2))
  go_ret
  exact ⟨_, rfl, hr2, H2.out⟩
end Go.Proofs.Yteagdgbcfbkfbab
/-
  Curve: triples: whether one is far; the sum of two with one Z; twice one.
-/
namespace Go.Proofs.Yteagdgbcfbkfbab
open Go.RowKit
set_option maxRecDepth 20000
/-- What a block without numbers has turned into turns no number. -/
theorem sl_upd {k : IntKind} {T : TypeId} {w w' : World} {b : Nat} {cs : List Value} {v : Value} {xs : List Int} (h : Sl k w v xs) (hB : Blk T w b cs) (hc : ∀ c ∈ cs, ∀ n, c ≠ .int k n) (hU : Upd w w' b) : Sl k w' v xs := by
  obtain ⟨a, c, rfl, hl, h1⟩ := h
  refine ⟨a, c, rfl, hl, ?_⟩
  by_cases h0 : xs = []
  · exact .inl h0
  rcases h1 with h1 | ⟨b', off, rfl, hb, hr⟩
  · exact absurd h1 h0
  refine .inr ⟨b', off, rfl, Nat.lt_of_lt_of_le hb hU.size, hU.rd hb hr fun he => ?_⟩
  subst he
  have h2 := hr 0 (List.length_pos_iff.2 h0)
  rw [hB.cell] at h2
  exact hc _ (List.mem_of_getElem? h2) _ rfl
theorem Nb.upd {T : TypeId} {w w' : World} {b : Nat} {cs : List Value} {v : Value} {x : Nat} (h : Nb w v x) (hB : Blk T w b cs) (hc : ∀ c ∈ cs, ∀ n, c ≠ .int .u32 n) (hU : Upd w w' b) : Nb w' v x := sl_upd h hB hc hU
set_option maxHeartbeats 1000000 in
theorem TisFar {w : World} (v0 v1 v2 : Value) (z : Nat) (h2 : Nb w v2 z) :
    Calls Try.prog 45 #[.agg #[v0, v1, v2]] w fun e w' => e = .returned (.bool (decide (z = 0))) ∧ Below w.heap.size w w' := by
  obtain ⟨a, c, rfl⟩ := h2.form
  obtain ⟨n, hn⟩ : ∃ n, (lim z).length = n := ⟨_, rfl⟩
  have HZ : Hid (decide (z = 0) = ((n : Int) == 0)) := by
    show _ = _
    have := lim0 (x := z); rw [hn] at this
    by_cases h : z = 0
    · have h1 := this.2 h; subst h1; simp [h]
    · have h1 : n ≠ 0 := fun hh => h (this.1 hh)
      simp [h]; exact fun hh => h1 (by omega)
  rw [hn]
  clear h2 hn
  go_enter Try.func45, Try.ntmps45
  go_upto_region 1 with (refine wpList_boxR rfl 62 (.tmp 0) rfl #[v0, v1, .slice a n c] rfl ?_)
  refine wp_gen (fun W => Blk 62 W w.heap.size [v0, v1, .slice a n c] ∧ Below w.heap.size w W) ⟨Blk.new _ w _, al1 _⟩ ?_
  rintro W2 ⟨hB, hBw⟩
  have hc2 : W2.cell? ⟨w.heap.size, 2, none⟩ = some (.slice a n c) := hB.cell 2
  have HB : Hid (Below w.heap.size w W2) := hBw
  clear hB hBw
  go_wp2
  go_ret
  exact ⟨by rw [HZ.out]; rfl, HB.out⟩
end Go.Proofs.Yteagdgbcfbkfbab
