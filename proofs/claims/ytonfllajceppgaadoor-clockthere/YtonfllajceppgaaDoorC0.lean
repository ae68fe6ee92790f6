import Derived.Test.YtonfllajceppgaaDoorProg

/- The calendar: days ahead of a year, of a month; the seconds of a moment, that these are in order; the years that begin with March. -/

namespace Go.Proofs.YtonfllajceppgaaDoor
set_option autoImplicit false

/-- days from 0000-01-01 to the first day of a year -/
def ys (y : Int) : Int := 365 * y + (y + 3) / 4 - (y + 99) / 100 + (y + 399) / 400

/-- 1: a leap year -/
def lp (y : Int) : Int := if y % 4 = 0 ∧ (y % 100 ≠ 0 ∨ y % 400 = 0) then 1 else 0

theorem lp_01 (y : Int) : lp y = 0 ∨ lp y = 1 := by
  unfold lp; split <;> simp

theorem ys_succ (y : Int) : ys (y + 1) = ys y + 365 + lp y := by
  unfold ys lp; split <;> omega

theorem ys_mono {a b : Int} (h : a < b) : ys a + 365 + lp a ≤ ys b := by
  have e := ys_succ a
  unfold ys at *; omega

/-- days ahead of a month in its year -/
def ms (y m : Int) : Int := if m ≤ 2 then 31 * (m - 1) else (153 * (m - 3) + 2) / 5 + 59 + lp y

/-- days of a month -/
def ml (y m : Int) : Int :=
  if m = 2 then 28 + lp y else if m = 4 ∨ m = 6 ∨ m = 9 ∨ m = 11 then 30 else 31

theorem ms_succ (y m : Int) (h : 1 ≤ m) (h' : m ≤ 12) : ms y (m + 1) = ms y m + ml y m := by
  have e : m = 1 ∨ m = 2 ∨ m = 3 ∨ m = 4 ∨ m = 5 ∨ m = 6 ∨ m = 7 ∨ m = 8 ∨ m = 9 ∨ m = 10 ∨ m = 11 ∨ m = 12 := by omega
  unfold ms ml
  rcases e with e | e | e | e | e | e | e | e | e | e | e | e <;> subst e <;> simp <;> (try omega)

theorem ms_13 (y : Int) : ms y 13 = 365 + lp y := by unfold ms; simp
theorem ms_1 (y : Int) : ms y 1 = 0 := by unfold ms; simp

theorem ms_mono (y : Int) {a b : Int} (h0 : 1 ≤ a) (h : a < b) (h2 : b ≤ 13) : ms y a + ml y a ≤ ms y b := by
  have e := ms_succ y a h0 (by omega)
  have l := lp_01 y
  rw [← e]
  unfold ms
  split <;> split <;> omega

structure Mo where
  Y : Int
  M : Int
  D : Int
  h : Int
  m : Int
  s : Int

/-- it is a moment -/
structure Mo.Ok (t : Mo) : Prop where
  y0 : 0 ≤ t.Y
  y1 : t.Y ≤ 9999
  m0 : 1 ≤ t.M
  m1 : t.M ≤ 12
  d0 : 1 ≤ t.D
  d1 : t.D ≤ ml t.Y t.M
  h0 : 0 ≤ t.h
  h1 : t.h < 24
  i0 : 0 ≤ t.m
  i1 : t.m < 60
  s0 : 0 ≤ t.s
  s1 : t.s < 60

def Mo.day (t : Mo) : Int := ys t.Y + ms t.Y t.M + t.D - 1
def Mo.sec (t : Mo) : Int := (t.day - 719528) * 86400 + t.h * 3600 + t.m * 60 + t.s

theorem ml_le (y m : Int) : ml y m ≤ 31 := by
  have l := lp_01 y
  unfold ml; split <;> (try split) <;> omega

theorem ml_ge (y m : Int) : 28 ≤ ml y m := by
  have l := lp_01 y
  unfold ml; split <;> (try split) <;> omega

theorem Mo.in_year {t : Mo} (k : t.Ok) : 0 ≤ ms t.Y t.M + t.D - 1 ∧ ms t.Y t.M + t.D - 1 < 365 + lp t.Y := by
  have a := k.m0; have b := k.m1; have c := k.d0; have d := k.d1
  have e := ms_mono t.Y (a := t.M) (b := 13) a (by omega) (by omega)
  rw [ms_13] at e
  have l := lp_01 t.Y
  have f : 0 ≤ ms t.Y t.M := by unfold ms; split <;> omega
  omega

theorem Mo.day_nn {t : Mo} (k : t.Ok) : 0 ≤ t.day := by
  have a := Mo.in_year k; have b := k.y0
  unfold Mo.day; unfold ys; omega

theorem Mo.day_lt {t : Mo} (k : t.Ok) : t.day < 3652425 := by
  have a := Mo.in_year k; have b := k.y1
  have c := ys_mono (a := t.Y) (b := 10000) (by omega)
  have d : ys 10000 = 3652425 := by decide
  unfold Mo.day; omega

theorem Mo.sec_range {t : Mo} (k : t.Ok) : -62167219200 ≤ t.sec ∧ t.sec ≤ 253402300799 := by
  have a := Mo.day_nn k; have b := Mo.day_lt k
  have := k.h0; have := k.h1; have := k.i0; have := k.i1; have := k.s0; have := k.s1
  unfold Mo.sec; omega

/-- a later day -/
theorem Mo.day_lex {a b : Mo} (ka : a.Ok) (kb : b.Ok)
    (h : a.Y < b.Y ∨ a.Y = b.Y ∧ (a.M < b.M ∨ a.M = b.M ∧ a.D < b.D)) : a.day < b.day := by
  have ia := Mo.in_year ka; have ib := Mo.in_year kb
  obtain ⟨aY, aM, aD, ah, am, az⟩ := a
  obtain ⟨bY, bM, bD, bh, bm, bz⟩ := b
  simp only [Mo.day] at h ia ib ⊢
  have d1 := ka.d1; have d0 := kb.d0; have m0 := ka.m0; have m1 := kb.m1
  simp only at d1 d0 m0 m1
  rcases h with h | ⟨q, h | ⟨h', h⟩⟩
  · have e := ys_mono h
    omega
  · subst q
    have e := ms_mono aY m0 h (by omega)
    omega
  · subst q; subst h'
    omega

theorem Mo.sec_lex {a b : Mo} (ka : a.Ok) (kb : b.Ok)
    (h : a.day < b.day ∨ a.day = b.day ∧ (a.h < b.h ∨ a.h = b.h ∧ (a.m < b.m ∨ a.m = b.m ∧ a.s < b.s))) : a.sec < b.sec := by
  have := ka.h0; have := ka.h1; have := ka.i0; have := ka.i1; have := ka.s0; have := ka.s1
  have := kb.h0; have := kb.h1; have := kb.i0; have := kb.i1; have := kb.s0; have := kb.s1
  unfold Mo.sec
  generalize a.day = x at *
  generalize b.day = y at *
  omega

def Mo.Lt (a b : Mo) : Prop :=
  a.Y < b.Y ∨ a.Y = b.Y ∧ (a.M < b.M ∨ a.M = b.M ∧ (a.D < b.D ∨ a.D = b.D ∧
    (a.h < b.h ∨ a.h = b.h ∧ (a.m < b.m ∨ a.m = b.m ∧ a.s < b.s))))

theorem Mo.lt_sec {a b : Mo} (ka : a.Ok) (kb : b.Ok) (h : Mo.Lt a b) : a.sec < b.sec := by
  by_cases e : a.Y = b.Y ∧ a.M = b.M ∧ a.D = b.D
  · have d : a.day = b.day := by unfold Mo.day; rw [e.1, e.2.1, e.2.2]
    refine Mo.sec_lex ka kb (Or.inr ⟨d, ?_⟩)
    unfold Mo.Lt at h; omega
  · refine Mo.sec_lex ka kb (Or.inl (Mo.day_lex ka kb ?_))
    unfold Mo.Lt at h; omega

theorem Mo.tri (a b : Mo) : Mo.Lt a b ∨ a = b ∨ Mo.Lt b a := by
  obtain ⟨aY, aM, aD, ah, am, az⟩ := a
  obtain ⟨bY, bM, bD, bh, bm, bz⟩ := b
  simp only [Mo.Lt, Mo.mk.injEq]; omega

theorem Mo.inj {a b : Mo} (ka : a.Ok) (kb : b.Ok) (h : a.sec = b.sec) : a = b := by
  rcases Mo.tri a b with e | e | e
  · have := Mo.lt_sec ka kb e; omega
  · exact e
  · have := Mo.lt_sec kb ka e; omega

theorem Mo.lt_iff {a b : Mo} (ka : a.Ok) (kb : b.Ok) : a.sec < b.sec ↔ Mo.Lt a b := by
  constructor
  · intro h
    rcases Mo.tri a b with e | e | e
    · exact e
    · subst e; omega
    · have := Mo.lt_sec kb ka e; omega
  · exact Mo.lt_sec ka kb

/-! ## The years that begin with March -/

def yb (y : Int) : Int := 365 * y + y / 4 - y / 100 + y / 400
def mb (k : Int) : Int := (153 * k + 2) / 5

theorem yb_step (y : Int) : yb y + 365 ≤ yb (y + 1) ∧ yb (y + 1) ≤ yb y + 366 := by
  unfold yb; omega

/-- the day that is told is reckoned again -/
theorem mar_day {day y k : Int} (h1 : yb y ≤ day) (h2 : day < yb (y + 1))
    (h3 : mb k ≤ day - yb y) (h4 : day - yb y < mb (k + 1)) (hk : 0 ≤ k) :
    k ≤ 11 ∧
    (k + 3 ≤ 12 → ys (y - 400) + ms (y - 400) (k + 3) + (day - yb y - mb k) = day - 146037 ∧ 0 ≤ day - yb y - mb k ∧ day - yb y - mb k < ml (y - 400) (k + 3)) ∧
    (12 < k + 3 → ys (y - 399) + ms (y - 399) (k - 9) + (day - yb y - mb k) = day - 146037 ∧ 0 ≤ day - yb y - mb k ∧ day - yb y - mb k < ml (y - 399) (k - 9)) := by
  have k11 : k ≤ 11 := by
    have := yb_step y
    unfold mb at h3; omega
  refine ⟨k11, ?_, ?_⟩
  · intro h
    have e : k = 0 ∨ k = 1 ∨ k = 2 ∨ k = 3 ∨ k = 4 ∨ k = 5 ∨ k = 6 ∨ k = 7 ∨ k = 8 ∨ k = 9 := by omega
    have a : ys (y - 400) + lp (y - 400) + 59 = yb y - 146037 := by
      have := ys_succ (y - 400)
      unfold ys at *; unfold yb; omega
    rcases e with e | e | e | e | e | e | e | e | e | e <;> subst e <;> simp only [mb, ms, ml] at * <;> simp at * <;> omega
  · intro h
    have e : k = 10 ∨ k = 11 := by omega
    have a : ys (y - 399) + 146037 = yb y + 306 := by
      unfold ys yb; omega
    have b : yb (y + 1) = yb y + 365 + lp (y - 399) := by
      have := ys_succ (y - 399)
      unfold ys at *; unfold yb; omega
    rcases e with e | e <;> subst e <;> simp only [mb, ms, ml] at * <;> simp at * <;> omega

/-- the day of a moment, as it is reckoned -/
theorem mar_reck {Y M : Int} (h1 : 1 ≤ M) (h2 : M ≤ 12) :
    (3 ≤ M → yb (Y + 400) + mb (M - 3) = ys Y + ms Y M + 146037) ∧
    (M < 3 → yb (Y + 399) + mb (M + 9) = ys Y + ms Y M + 146037) := by
  constructor
  · intro h
    have a : ys Y + lp Y + 59 = yb (Y + 400) - 146037 := by
      have := ys_succ Y
      unfold ys at *; unfold yb; omega
    unfold ms mb
    rw [if_neg (by omega)]; omega
  · intro h
    have a : ys Y + 146037 = yb (Y + 399) + 306 := by
      unfold ys yb; omega
    have e : M = 1 ∨ M = 2 := by omega
    unfold ms mb
    rcases e with e | e <;> subst e <;> simp <;> omega

end Go.Proofs.YtonfllajceppgaaDoor
