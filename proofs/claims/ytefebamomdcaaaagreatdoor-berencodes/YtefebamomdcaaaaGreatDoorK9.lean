/-
  Ber: the reader's next byte, long tags, numbers.
-/
import Derived.Test.YtefebamomdcaaaaGreatDoorK8
namespace Go.Proofs.YtefebamomdcaaaaGreatDoor
open Go.RowKit
/-- A fault with its place. -/
abbrev erV (e : Int) (a : Nat) : Value := .iface 113 (.agg #[.int .i64 (a : Int), .iface 109 (.agg #[.int .i64 e])])
theorem fault_any {w : World} (er : Int) (a : Nat) :
    Calls Tryz.prog 59 #[.int .i64 er, .int .i64 (a : Int)] w fun e w' => e = .returned (erV er a) ∧ w = w' := by
  go_enter Tryz.func59, Tryz.ntmps59
  go_wp2
  go_ret
  exact ⟨rfl, rfl⟩
/-- A reader lies at block g: it reads n bytes of block b from off on, stands at p, and reads none at q or behind. -/
def Rdb (w : World) (g b off n c p q : Nat) : Prop := Blk 101 w g [.slice (some ⟨b, off, none⟩) n c, .int .i64 (p : Int), .int .i64 (q : Int)]
theorem Rdb.pos {w : World} {g b off n c p q : Nat} (h : Rdb w g b off n c p q) : posOf (w.cell? ⟨g, 1, none⟩) = p := by
  have c1 : w.cell? ⟨g, 1, none⟩ = some (.int .i64 p) := h.cell 1
  rw [c1]; simp [posOf, intOf]
set_option maxHeartbeats 1000000 in
theorem next_any {w : World} (g b off n c p q : Nat) (x : Int) (hR : Rdb w g b off n c p q) (hp : p < q) (hq : q ≤ n) (hn : n ≤ 16777216) (hx : w.cell? ⟨b, off + p, none⟩ = some (.int .u8 x)) :
    Calls Tryz.prog 109 #[.pointer (some ⟨g, 0, none⟩)] w fun e w' => e = .returned (.tuple #[.int .u8 x, .nilIface]) ∧ Upd w w' g ∧ Rdb w' g b off n c (p + 1) q := by
  have c0 : w.cell? ⟨g, 0, none⟩ = some (.slice (some ⟨b, off, none⟩) n c) := hR.cell 0
  have c1 : w.cell? ⟨g, 1, none⟩ = some (.int .i64 p) := hR.cell 1
  have c2 : w.cell? ⟨g, 2, none⟩ = some (.int .i64 q) := hR.cell 2
  have f1 := hR.frozen 1
  have HR : Hid (Rdb w g b off n c p q) := hR
  have hpI : (p : Int) < (n : Int) := by omega
  have hpq : ¬ (q : Int) ≤ (p : Int) := by omega
  clear hR
  go_enter Tryz.func109, Tryz.ntmps109
  go_upto_region 1 with (fail)
  go_quiet (fail)
  go_upto_region 3 with (fail)
  refine wp_gen (fun W => W = w.drewN nq) rfl ?_
  intro w1 hw1
  have HW1 : Hid (w1 = w.drewN nq) := hw1
  replace c0 : w1.cell? ⟨g, 0, none⟩ = some (.slice (some ⟨b, off, none⟩) n c) := by rw [hw1]; exact c0
  replace c1 : w1.cell? ⟨g, 1, none⟩ = some (.int .i64 p) := by rw [hw1]; exact c1
  replace f1 : w1.frozen? ⟨g, 1, none⟩ = false := by rw [hw1]; exact f1
  replace hx : w1.cell? ⟨b, off + p, none⟩ = some (.int .u8 x) := by rw [hw1]; exact hx
  clear hw1 c2
  go_quiet (fail)
  go_wp2
  go_ret2
  refine ⟨rfl, ?_, ?_⟩
  · have h1 : Upd w (w1.drewN nq) g := by rw [HW1.out]; exact ⟨rfl, rfl, rfl, Nat.le_refl _, fun _ _ _ => rfl⟩
    exact h1.trans (Upd.set _ _ _ _)
  · have h1 : Blk 101 (w1.drewN nq) g [.slice (some ⟨b, off, none⟩) n c, .int .i64 p, .int .i64 q] := by rw [HW1.out]; exact HR.out
    have := h1.set 1 (.int .i64 ((p + 1 : Nat) : Int))
    exact this
set_option maxHeartbeats 1000000 in
theorem next_end {w : World} (g b off n c p q : Nat) (hR : Rdb w g b off n c p q) (hp : q ≤ p) :
    Calls Tryz.prog 109 #[.pointer (some ⟨g, 0, none⟩)] w fun e w' => e = .returned (.tuple #[.int .u8 0, erV 2 q]) ∧ Upd w w' g := by
  have c0 : w.cell? ⟨g, 0, none⟩ = some (.slice (some ⟨b, off, none⟩) n c) := hR.cell 0
  have c1 : w.cell? ⟨g, 1, none⟩ = some (.int .i64 p) := hR.cell 1
  have c2 : w.cell? ⟨g, 2, none⟩ = some (.int .i64 q) := hR.cell 2
  have hpq : (q : Int) ≤ (p : Int) := by omega
  clear hR
  go_enter Tryz.func109, Tryz.ntmps109
  go_upto_region 1 with (fail)
  go_quiet (fail)
  go_wp2_with (go_at_call 59; refine (fault_any 2 q).mono ?_; rintro e w2 ⟨rfl, rfl⟩)
  go_ret2
  exact ⟨rfl, ⟨rfl, rfl, rfl, Nat.le_refl _, fun _ _ _ => rfl⟩⟩
/-- The error that comes with what was read. -/
def Rs.er : Rs → Value
  | .inl (e, a) => erV e a
  | .inr (_, _) => .nilIface
/-- Where the reader stands behind what was read. -/
def Stands (O : Rs) (P : Nat → Prop) : Prop := ∀ v j, O = .inr (v, j) → P j
set_option maxRecDepth 20000 in
set_option maxHeartbeats 4000000 in
theorem longTag_any {w : World} (g b off n c p q : Nat) (M : List Int) (hR : Rdb w g b off n c p q) (hM : Rd .u8 w b off M) (uM : U8s M) (hMl : M.length = q) (hq : q ≤ n) (hn : n ≤ 16777216) (hb : b < w.heap.size) (hbg : b ≠ g) (hp : p ≤ q) :
    Calls Tryz.prog 110 #[.pointer (some ⟨g, 0, none⟩)] w fun e w' => e = .returned (.tuple #[.int .i64 (lng M p 0).v, (lng M p 0).er]) ∧ Upd w w' g ∧ Stands (lng M p 0) fun j => Rdb w' g b off n c j q := by
  have HX : Hid (Rdb w g b off n c p q ∧ Rd .u8 w b off M ∧ U8s M ∧ M.length = q) := ⟨hR, hM, uM, hMl⟩
  obtain ⟨O, hO⟩ : ∃ O, lng M p 0 = O := ⟨_, rfl⟩
  have HO : Hid (lng M p 0 = O) := hO
  rw [hO]
  clear hR hM uM hMl hO
  go_enter Tryz.func110, Tryz.ntmps110
  go_wp2_with fail
  go_loopw [4] (fun tv wr => ∃ (i : Nat) (t : Int), tv = .int .i64 t ∧ i ≤ q ∧ 0 ≤ t ∧ t ≤ 268435455 ∧ Rdb wr g b off n c i q ∧ Upd w wr g ∧ lng M i t = O) (fun _ wr => q - posOf (wr.cell? ⟨g, 1, none⟩))
  case atStart => exact ⟨p, 0, rfl, hp, by decide, by decide, HX.out.1, Upd.refl _ _, HO.out⟩
  case round =>
    obtain ⟨i, t, rfl, hi, t0, t1, hr, hu, hl⟩ := hrel
    have H1 : Hid (Rdb wr g b off n c i q ∧ Upd w wr g ∧ lng M i t = O) := ⟨hr, hu, hl⟩
    clear hr hu hl
    by_cases hlt : i < q
    · obtain ⟨x, hx⟩ : ∃ x, M.getD i 0 = x := ⟨_, rfl⟩
      have hxu := HX.out.2.2.1.at i
      rw [hx] at hxu
      have HU : Hid (U8 x) := hxu
      obtain ⟨t', ht'⟩ : ∃ t', t * 128 + x % 128 = t' := ⟨_, rfl⟩
      have HS : Hid (O = if t' = 0 ∨ 268435455 < t' ∨ (x < 128 ∧ t' < 31) then .inl (30, i) else if x < 128 then .inr (t', (i + 1)) else lng M (i + 1) t') := by
        show _ = _
        rw [← H1.out.2.2]
        exact lng_step (by have := HX.out.2.2.2; omega) hx ht'
      have e1 := and_127 x hxu
      have e2 := or_i64 7 t (x % 128) t0 (by omega) (by omega) (by omega) (by decide)
      rw [show t * 2 ^ 7 = t * 128 from rfl, ht'] at e2
      have x0 : 0 ≤ x % 128 := by omega
      have x1 : x % 128 ≤ 127 := by omega
      obtain ⟨y, hy⟩ : ∃ y, x % 128 = y := ⟨_, rfl⟩
      rw [hy] at e1 e2 x0 x1
      have HT : Hid (0 ≤ t' ∧ t * 128 + y = t' ∧ t' ≤ 34359738367) := ⟨by omega, by omega, by omega⟩
      clear hxu ht' hy
      go_wp2_with fail
      refine (next_any g b off n c i q x H1.out.1 hlt hq hn ?_).mono ?_
      · rw [H1.out.2.1.rd hb HX.out.2.1 hbg i (by have := HX.out.2.2.2; omega), hx]
      rintro e w1 ⟨rfl, hu, hr⟩
      obtain ⟨i1, hi1⟩ : ∃ i1, i + 1 = i1 := ⟨_, rfl⟩
      rw [hi1] at hr
      have H2 : Hid (Rdb w1 g b off n c i1 q ∧ Upd w w1 g ∧ i + 1 = i1) := ⟨hr, H1.out.2.1.trans hu, hi1⟩
      have d1 : w1.cell? ⟨g, 1, none⟩ = some (.int .i64 (i1 : Int)) := hr.cell 1
      have d2 : (i1 : Int) - 1 = (i : Int) := by omega
      have d3 : i1 ≤ q := by omega
      clear hu hr hx hi1
      have bad : Hid (t' = 0 ∨ 268435455 < t' ∨ (x < 128 ∧ t' < 31) → O = .inl (30, i)) := by
        intro h; rw [HS.out, if_pos h]
      have u0 := HU.out.1
      have u1 := HU.out.2
      by_cases q1 : t' = 0
      · subst q1
        go_wp2_with (go_at_call 59; refine (fault_any 30 i).mono ?_; rintro e w2 ⟨rfl, rfl⟩)
        go_ret2
        rw [bad.out (.inl (by simp))]
        exact ⟨rfl, H2.out.2.1, fun _ _ h => by cases h⟩
      have q1b : (t' == 0) = false := by simpa using q1
      by_cases q2 : 268435455 < t'
      · go_wp2_with (go_at_call 59; refine (fault_any 30 i).mono ?_; rintro e w2 ⟨rfl, rfl⟩)
        go_ret2
        rw [bad.out (.inr (.inl q2))]
        exact ⟨rfl, H2.out.2.1, fun _ _ h => by cases h⟩
      by_cases q3 : x < 128
      · by_cases q4 : t' < 31
        · go_wp2_with (go_at_call 59; refine (fault_any 30 i).mono ?_; rintro e w2 ⟨rfl, rfl⟩)
          go_ret2
          rw [bad.out (.inr (.inr ⟨q3, q4⟩))]
          exact ⟨rfl, H2.out.2.1, fun _ _ h => by cases h⟩
        · go_wp2
          go_ret2
          have h1 := HS.out
          rw [if_neg (by omega), if_pos q3, H2.out.2.2] at h1
          subst h1
          exact ⟨rfl, H2.out.2.1, fun v j h => by cases h; exact H2.out.1⟩
      · go_wp2
        go_roundw
        case rel =>
          refine ⟨i1, t', rfl, d3, HT.out.1, by omega, H2.out.1, H2.out.2.1, ?_⟩
          have h1 := HS.out
          rw [if_neg (by omega), if_neg (by omega), H2.out.2.2] at h1
          exact h1.symm
        case measure => rw [H2.out.1.pos, H1.out.1.pos]; have := H2.out.2.2; omega
    · obtain rfl : i = q := by omega
      go_wp2_with fail
      refine (next_end g b off n c i i H1.out.1 (Nat.le_refl _)).mono ?_
      rintro e w1 ⟨rfl, hu⟩
      have H2 : Hid (Upd w w1 g) := H1.out.2.1.trans hu
      clear hu
      go_wp2
      go_ret2
      have h1 := H1.out.2.2
      rw [lng_end (by have := HX.out.2.2.2; omega), HX.out.2.2.2] at h1
      subst h1
      exact ⟨rfl, H2.out, fun _ _ h => by cases h⟩
/-- What a few bytes of a number tell. -/
def numS (M : List Int) (i k : Nat) : Rs := if M.length < i + k then .inl (2, M.length) else .inr (fold8 M i k, i + k)
set_option maxRecDepth 20000 in
set_option maxHeartbeats 4000000 in
theorem number_any {w : World} (g b off n c p q k : Nat) (M : List Int) (hR : Rdb w g b off n c p q) (hM : Rd .u8 w b off M) (uM : U8s M) (hMl : M.length = q) (hq : q ≤ n) (hn : n ≤ 16777216) (hb : b < w.heap.size) (hbg : b ≠ g) (hp : p ≤ q) (hk : k ≤ 127) :
    Calls Tryz.prog 111 #[.pointer (some ⟨g, 0, none⟩), .int .i64 (k : Int)] w fun e w' => e = .returned (.tuple #[.int .i64 (numS M p k).v, (numS M p k).er]) ∧ Upd w w' g ∧ Stands (numS M p k) fun j => Rdb w' g b off n c j q := by
  have HX : Hid (Rdb w g b off n c p q ∧ Rd .u8 w b off M ∧ U8s M ∧ M.length = q) := ⟨hR, hM, uM, hMl⟩
  have hkI : (k : Int) ≤ 127 := by omega
  clear hR hM uM hMl
  go_enter Tryz.func111, Tryz.ntmps111
  go_wp2_with fail
  go_loopw [4, 9] (fun tv iv wr => ∃ (i : Nat) (t : Int), tv = .int .i64 t ∧ iv = .int .i64 (i : Int) ∧ i ≤ k ∧ p + i ≤ q ∧ 0 ≤ t ∧ t ≤ 16777217 ∧ fold8 M p i = t ∧ Rdb wr g b off n c (p + i) q ∧ Upd w wr g) (fun _ iv _ => k - (intOf iv).toNat)
  case atStart => exact ⟨0, 0, rfl, rfl, by omega, by omega, by decide, by decide, rfl, HX.out.1, Upd.refl _ _⟩
  case round =>
    obtain ⟨i, t, rfl, rfl, hi, hpi, t0, t1, hf, hr, hu⟩ := hrel
    have H1 : Hid (Rdb wr g b off n c (p + i) q ∧ Upd w wr g ∧ fold8 M p i = t) := ⟨hr, hu, hf⟩
    clear hr hu hf
    by_cases hlt : i < k
    · have hltI : (i : Int) < (k : Int) := by omega
      by_cases hlt2 : p + i < q
      · obtain ⟨x, hx⟩ : ∃ x, M.getD (p + i) 0 = x := ⟨_, rfl⟩
        have hxu := HX.out.2.2.1.at (p + i)
        rw [hx] at hxu
        have x0 := hxu.1
        have x1 := hxu.2
        have e2 := or_i64 8 t x t0 (by omega) x0 (by omega) (by decide)
        rw [show t * 2 ^ 8 = t * 256 from rfl] at e2
        obtain ⟨t2, ht2⟩ : ∃ t2, t * 256 + x = t2 := ⟨_, rfl⟩
        rw [ht2] at e2
        have hF : fold8 M p (i + 1) = min t2 16777217 := by
          rw [fold8_at p i hx, H1.out.2.2, ht2]
        have t20 : 0 ≤ t2 := by omega
        have t21 : t2 ≤ 4294968000 := by omega
        have HF : Hid (fold8 M p (i + 1) = min t2 16777217) := hF
        clear ht2 hF hxu
        go_wp2_with fail
        refine (next_any g b off n c (p + i) q x H1.out.1 hlt2 hq hn ?_).mono ?_
        · rw [H1.out.2.1.rd hb HX.out.2.1 hbg (p + i) (by have := HX.out.2.2.2; omega), hx]
        rintro e w1 ⟨rfl, hu, hr⟩
        have H2 : Hid (Rdb w1 g b off n c (p + (i + 1)) q ∧ Upd w w1 g) := ⟨hr, H1.out.2.1.trans hu⟩
        clear hu hr hx
        by_cases q1 : t2 ≤ 16777217
        · go_wp2
          go_roundw
          case rel => exact ⟨i + 1, t2, rfl, by go_num, by omega, by omega, t20, q1, by rw [HF.out]; omega, H2.out.1, H2.out.2⟩
          case measure => simp [intOf]; omega
        · go_wp2
          go_roundw
          case rel => exact ⟨i + 1, 16777217, rfl, by go_num, by omega, by omega, by decide, by decide, by rw [HF.out]; omega, H2.out.1, H2.out.2⟩
          case measure => simp [intOf]; omega
      · have hpe : q ≤ p + i := by omega
        go_wp2_with fail
        refine (next_end g b off n c (p + i) q H1.out.1 hpe).mono ?_
        rintro e w1 ⟨rfl, hu⟩
        have H2 : Hid (Upd w w1 g) := H1.out.2.1.trans hu
        clear hu
        go_wp2
        go_ret2
        have h1 : numS M p k = .inl (2, q) := by unfold numS; rw [if_pos (by have := HX.out.2.2.2; omega), HX.out.2.2.2]
        rw [h1]
        exact ⟨rfl, H2.out, fun _ _ h => by cases h⟩
    · obtain rfl : i = k := by omega
      go_wp2
      go_ret2
      have h1 : numS M p i = .inr (t, p + i) := by unfold numS; rw [if_neg (by have := HX.out.2.2.2; omega), H1.out.2.2]
      rw [h1]
      exact ⟨rfl, H1.out.2.1, fun v j h => by cases h; exact H1.out.1⟩
end Go.Proofs.YtefebamomdcaaaaGreatDoor
/-
  Ber: the reader's length and head.
-/
namespace Go.Proofs.YtefebamomdcaaaaGreatDoor
open Go.RowKit
/-- The number that the reader tells for a length. -/
def Rs.n0 (O : Rs) : Int := if O.v = -1 then 0 else O.v
/-- A number that reaches behind the end is none. -/
def capL (q p : Nat) : Rs → Rs
  | .inl x => .inl x
  | .inr (v, j) => if (q : Int) - j < v then .inl (31, p) else .inr (v, j)
theorem blen_end {M : List Int} {p : Nat} {co : Bool} (h : M.length ≤ p) : blen M p co = .inl (2, M.length) := by unfold blen; rw [if_pos h]
theorem blen_ff {M : List Int} {p : Nat} {co : Bool} {x : Int} (hp : p < M.length) (hx : M.getD p 0 = x) (h : x = 255 ∨ (x = 128 ∧ co = false)) : blen M p co = .inl (31, p) := by
  unfold blen; rw [if_neg (by omega), hx, if_pos h]
theorem blen_open {M : List Int} {p : Nat} {x : Int} (hp : p < M.length) (hx : M.getD p 0 = x) (h : x = 128) : blen M p true = .inr (-1, p + 1) := by
  unfold blen; rw [if_neg (by omega), hx, if_neg (by simp; omega), if_pos h]
theorem blen_lo {M : List Int} {p : Nat} {co : Bool} {x : Int} (hp : p < M.length) (hx : M.getD p 0 = x) (h : x < 128) : blen M p co = if (M.length : Int) < p + 1 + x then .inl (31, p) else .inr (x, (p + 1)) := by
  unfold blen; rw [if_neg (by omega), hx, if_neg (by omega), if_neg (by omega), if_pos h]
theorem blen_hi {M : List Int} {p k : Nat} {co : Bool} {x : Int} (hp : p < M.length) (hx : M.getD p 0 = x) (h : 128 < x) (h2 : x < 255) (hk : x - 128 = k) :
    blen M p co = capL M.length p (numS M (p + 1) k) := by
  have hk' : (x - 128).toNat = k := by omega
  unfold blen numS; rw [if_neg (by omega), hx, if_neg (by omega), if_neg (by omega), if_neg (by omega), hk']
  by_cases h3 : M.length < p + 1 + k
  · rw [if_pos h3, if_pos h3]; rfl
  · rw [if_neg h3, if_neg h3]; rfl
set_option maxRecDepth 20000 in
set_option maxHeartbeats 4000000 in
theorem length_any {w : World} (g b off n c p q : Nat) (co : Bool) (M : List Int) (hR : Rdb w g b off n c p q) (hM : Rd .u8 w b off M) (uM : U8s M) (hMl : M.length = q) (hq : q ≤ n) (hn : n ≤ 16777216) (hb : b < w.heap.size) (hbg : b ≠ g) (hp : p ≤ q) :
    Calls Tryz.prog 86 #[.pointer (some ⟨g, 0, none⟩), .bool co] w fun e w' => e = .returned (.tuple #[.int .i64 (blen M p co).n0, .bool (decide ((blen M p co).v = -1)), (blen M p co).er]) ∧ Upd w w' g ∧ Stands (blen M p co) fun j => Rdb w' g b off n c j q := by
  have HX : Hid (Rdb w g b off n c p q ∧ Rd .u8 w b off M ∧ U8s M ∧ M.length = q) := ⟨hR, hM, uM, hMl⟩
  have c1 : w.cell? ⟨g, 1, none⟩ = some (.int .i64 p) := hR.cell 1
  obtain ⟨O, hO⟩ : ∃ O, blen M p co = O := ⟨_, rfl⟩
  have HO : Hid (blen M p co = O) := hO
  rw [hO]
  clear hR hM uM hMl hO
  by_cases hpq : p = q
  · subst hpq
    go_enter Tryz.func86, Tryz.ntmps86
    go_wp2_with fail
    refine (next_end g b off n c p p HX.out.1 (Nat.le_refl _)).mono ?_
    rintro e w1 ⟨rfl, hu⟩
    have H2 : Hid (Upd w w1 g) := hu
    clear hu
    go_wp2
    go_ret3
    have h1 := HO.out
    rw [blen_end (by have := HX.out.2.2.2; omega), HX.out.2.2.2] at h1
    subst h1
    exact ⟨rfl, H2.out, fun _ _ h => by cases h⟩
  · have hlt : p < q := by omega
    obtain ⟨x, hx⟩ : ∃ x, M.getD p 0 = x := ⟨_, rfl⟩
    have hxu := HX.out.2.2.1.at p
    rw [hx] at hxu
    have HU : Hid (U8 x ∧ M.getD p 0 = x ∧ p < M.length) := ⟨hxu, hx, by have := HX.out.2.2.2; omega⟩
    have hcx : w.cell? ⟨b, off + p, none⟩ = some (.int .u8 x) := by rw [HX.out.2.1 p (by have := HX.out.2.2.2; omega), hx]
    have HCX : Hid (w.cell? ⟨b, off + p, none⟩ = some (.int .u8 x)) := hcx
    have x0 := hxu.1
    have x1 := hxu.2
    clear hx hcx hxu
    obtain ⟨p1, hp1⟩ : ∃ p1, p + 1 = p1 := ⟨_, rfl⟩
    have HN : Hid (∀ W : World, W = w → Calls Tryz.prog 109 #[.pointer (some ⟨g, 0, none⟩)] W fun e w' => e = .returned (.tuple #[.int .u8 x, .nilIface]) ∧ Upd w w' g ∧ Rdb w' g b off n c p1 q) := by
      rintro W rfl; rw [← hp1]; exact next_any g b off n c p q x HX.out.1 hlt hq hn HCX.out
    have HP1 : Hid (p + 1 = p1) := hp1
    have d2 : (p1 : Int) = (p : Int) + 1 := by omega
    clear hp1
    by_cases qa : x = 255
    · have qb : (x == 255) = true := by simpa using qa
      go_enter Tryz.func86, Tryz.ntmps86
      go_wp2_with fail
      refine (HN.out _ rfl).mono ?_
      rintro e w1 ⟨rfl, hu, hr⟩
      have H2 : Hid (Upd w w1 g) := hu
      clear hu hr
      go_wp2_with (go_at_call 59; refine (fault_any 31 p).mono ?_; rintro e w2 ⟨rfl, rfl⟩)
      go_ret3
      have h1 := HO.out
      rw [blen_ff HU.out.2.2 HU.out.2.1 (.inl qa)] at h1
      subst h1
      exact ⟨rfl, H2.out, fun _ _ h => by cases h⟩
    have qb : (x == 255) = false := by simpa using qa
    by_cases qc : x = 128
    · have qd : (x == 128) = true := by simpa using qc
      have HXC : Hid (x = 128) := qc
      clear qc
      cases co with
      | false =>
        go_enter Tryz.func86, Tryz.ntmps86
        go_wp2_with fail
        refine (HN.out _ rfl).mono ?_
        rintro e w1 ⟨rfl, hu, hr⟩
        have H2 : Hid (Upd w w1 g) := hu
        clear hu hr
        go_wp2_with (go_at_call 59; refine (fault_any 31 p).mono ?_; rintro e w2 ⟨rfl, rfl⟩)
        go_ret3
        have h1 := HO.out
        rw [blen_ff HU.out.2.2 HU.out.2.1 (.inr ⟨HXC.out, rfl⟩)] at h1
        subst h1
        exact ⟨rfl, H2.out, fun _ _ h => by cases h⟩
      | true =>
        go_enter Tryz.func86, Tryz.ntmps86
        go_wp2_with fail
        refine (HN.out _ rfl).mono ?_
        rintro e w1 ⟨rfl, hu, hr⟩
        have H2 : Hid (Upd w w1 g ∧ Rdb w1 g b off n c p1 q) := ⟨hu, hr⟩
        clear hu hr
        go_wp2
        go_ret3
        have h1 := HO.out
        rw [blen_open HU.out.2.2 HU.out.2.1 HXC.out, HP1.out] at h1
        subst h1
        exact ⟨rfl, H2.out.1, fun v j h => by cases h; exact H2.out.2⟩
    have qd : (x == 128) = false := by simpa using qc
    by_cases qe : x < 128
    · have HB : Hid (O = if (q : Int) < p1 + x then .inl (31, p) else .inr (x, p1)) := by
        show _ = _
        rw [← HO.out, blen_lo HU.out.2.2 HU.out.2.1 qe, HX.out.2.2.2, HP1.out, d2]
      by_cases qf : (q : Int) - (p1 : Int) < x
      · go_enter Tryz.func86, Tryz.ntmps86
        go_wp2_with fail
        refine (HN.out _ rfl).mono ?_
        rintro e w1 ⟨rfl, hu, hr⟩
        have H2 : Hid (Upd w w1 g ∧ Rdb w1 g b off n c p1 q) := ⟨hu, hr⟩
        have r1 : w1.cell? ⟨g, 1, none⟩ = some (.int .i64 p1) := hr.cell 1
        have r2 : w1.cell? ⟨g, 2, none⟩ = some (.int .i64 q) := hr.cell 2
        clear hu hr c1
        go_upto_region 13 with (fail)
        go_quiet (fail)
        go_wp2_with (go_at_call 59; refine (fault_any 31 p).mono ?_; rintro e w2 ⟨rfl, rfl⟩)
        go_ret3
        have h1 := HB.out
        rw [if_pos (by omega)] at h1
        subst h1
        exact ⟨rfl, H2.out.1.trans (upd_drewN _ _ _), fun _ _ h => by cases h⟩
      · go_enter Tryz.func86, Tryz.ntmps86
        go_wp2_with fail
        refine (HN.out _ rfl).mono ?_
        rintro e w1 ⟨rfl, hu, hr⟩
        have H2 : Hid (Upd w w1 g ∧ Rdb w1 g b off n c p1 q) := ⟨hu, hr⟩
        have r1 : w1.cell? ⟨g, 1, none⟩ = some (.int .i64 p1) := hr.cell 1
        have r2 : w1.cell? ⟨g, 2, none⟩ = some (.int .i64 q) := hr.cell 2
        clear hu hr c1
        go_upto_region 13 with (fail)
        go_quiet (fail)
        go_wp2
        go_ret3
        have h1 := HB.out
        rw [if_neg (by omega)] at h1
        subst h1
        have hv : ¬ x = -1 := by omega
        refine ⟨by simp [Rs.n0, Rs.v, Rs.er, hv], H2.out.1.trans (upd_drewN _ _ _), fun v j h => by cases h; exact H2.out.2.drewN _⟩
    · obtain ⟨k, hk⟩ : ∃ k : Nat, x - 128 = k := ⟨(x - 128).toNat, by omega⟩
      have qe' : ¬ x < 128 := qe
      have hk1 : k ≤ 127 := by omega
      obtain ⟨U, hU⟩ : ∃ U, numS M p1 k = U := ⟨_, rfl⟩
      have HK : Hid (O = capL q p U) := by
        show _ = _
        rw [← HO.out, blen_hi HU.out.2.2 HU.out.2.1 (by omega) (by omega) hk, HP1.out, hU, HX.out.2.2.2]
      have HUU : Hid (numS M p1 k = U) := hU
      have hw : IntKind.u8.wrap (x - 128) = (k : Int) := by rw [hk]; simp [IntKind.wrap, IntKind.bits, IntKind.signed]; omega
      have HKK : Hid (x - 128 = (k : Int)) := hk
      clear hU
      go_enter Tryz.func86, Tryz.ntmps86
      go_wp2_with fail
      refine (HN.out _ rfl).mono ?_
      rintro e w1 ⟨rfl, hu, hr⟩
      have H2 : Hid (Upd w w1 g ∧ Rdb w1 g b off n c p1 q) := ⟨hu, hr⟩
      clear hu hr c1
      go_wp2_with fail
      refine (number_any g b off n c p1 q k M H2.out.2 (H2.out.1.rd hb HX.out.2.1 hbg) HX.out.2.2.1 HX.out.2.2.2 hq hn (Nat.lt_of_lt_of_le hb H2.out.1.size) hbg (by have := HP1.out; omega) hk1).mono ?_
      rw [HUU.out]
      rintro e w2 ⟨rfl, hu, hst⟩
      cases U with
      | inl ea =>
        obtain ⟨er, a⟩ := ea
        have H3 : Hid (Upd w w2 g) := H2.out.1.trans hu
        clear hu hst
        simp only [Rs.v, Rs.er]
        go_upto_region 13 with (fail)
        go_quiet (fail)
        go_wp2
        go_ret3
        have h1 : O = .inl (er, a) := HK.out
        subst h1
        exact ⟨rfl, H3.out.trans (upd_drewN _ _ _), fun _ _ h => by cases h⟩
      | inr vj =>
        obtain ⟨v, j⟩ := vj
        have hr := hst v j rfl
        have H3 : Hid (Upd w w2 g ∧ Rdb w2 g b off n c j q) := ⟨H2.out.1.trans hu, hr⟩
        have r1 : w2.cell? ⟨g, 1, none⟩ = some (.int .i64 j) := hr.cell 1
        have r2 : w2.cell? ⟨g, 2, none⟩ = some (.int .i64 q) := hr.cell 2
        have hj : v = fold8 M p1 k ∧ j = p1 + k ∧ ¬ M.length < p1 + k := by
          have h := HUU.out
          unfold numS at h
          split at h
          · cases h
          · rename_i hn'; cases h; exact ⟨rfl, rfl, hn'⟩
        have hf := fold8_bd HX.out.2.2.1 p1 k
        have v0 : 0 ≤ v := by omega
        have v1 : v ≤ 16777217 := by omega
        have j1 : j ≤ q := by have := HX.out.2.2.2; omega
        have hMq := HX.out.2.2.2
        have HB : Hid (O = if (q : Int) - j < v then .inl (31, p) else .inr (v, j)) := HK.out
        clear hu hst hr hj hf hMq
        simp only [Rs.v, Rs.er]
        by_cases qf : (q : Int) - (j : Int) < v
        · go_upto_region 13 with (fail)
          go_quiet (fail)
          go_wp2_with (go_at_call 59; refine (fault_any 31 p).mono ?_; rintro e w2 ⟨rfl, rfl⟩)
          go_ret3
          have h1 := HB.out
          rw [if_pos qf] at h1
          subst h1
          exact ⟨rfl, H3.out.1.trans (upd_drewN _ _ _), fun _ _ h => by cases h⟩
        · go_upto_region 13 with (fail)
          go_quiet (fail)
          go_wp2
          go_ret3
          have h1 := HB.out
          rw [if_neg (by omega)] at h1
          subst h1
          have hv : ¬ v = -1 := by omega
          refine ⟨by simp [Rs.n0, Rs.v, Rs.er, hv], H3.out.1.trans (upd_drewN _ _ _), fun v' j' h => by cases h; exact H3.out.2.drewN _⟩
end Go.Proofs.YtefebamomdcaaaaGreatDoor
/-
  Ber: the reader's head.
-/
namespace Go.Proofs.YtefebamomdcaaaaGreatDoor
open Go.RowKit
abbrev zE : List Value := [.int .i64 0, .int .i64 0, .int .i64 0, .bool false, .slice none 0 0]
theorem Tryz.sizeE : (Tryz.prog.info? 59).map (·.size) = some 5 := by kernel_rfl
set_option maxRecDepth 20000 in
set_option maxHeartbeats 4000000 in
theorem head_end {w : World} (g b off n c p q : Nat) (hR : Rdb w g b off n c p q) (hp : q ≤ p) :
    Calls Tryz.prog 85 #[.pointer (some ⟨g, 0, none⟩)] w fun e w' => e = .returned (.tuple #[.agg zE.toArray, erV 2 q]) ∧ Upd w w' g := by
  have HR : Hid (Rdb w g b off n c p q) := hR
  have hgl := hR.lt
  clear hR
  go_enter Tryz.func85, Tryz.ntmps85
  go_wp2_with fail
  refine (next_end g b off n c p q (HR.out.alloc _) hp).mono ?_
  rintro e w1 ⟨rfl, hu⟩
  have hB1 : Blk 59 w1 w.heap.size zE := hu.blk (Blk.new _ w _) (by omega)
  have H1 : Hid (Upd (w.alloc (.cells zE.toArray 59)) w1 g ∧ Blk 59 w1 w.heap.size zE) := ⟨hu, hB1⟩
  have d0 : w1.cell? ⟨w.heap.size, 0, none⟩ = some (.int .i64 0) := hB1.cell 0
  have d1 : w1.cell? ⟨w.heap.size, 1, none⟩ = some (.int .i64 0) := hB1.cell 1
  have d2 : w1.cell? ⟨w.heap.size, 2, none⟩ = some (.int .i64 0) := hB1.cell 2
  have d3 : w1.cell? ⟨w.heap.size, 3, none⟩ = some (.bool false) := hB1.cell 3
  have d4 : w1.cell? ⟨w.heap.size, 4, none⟩ = some (.slice none 0 0) := hB1.cell 4
  have f0 := hB1.frozen 0
  have f1 := hB1.frozen 1
  have f2 := hB1.frozen 2
  have f3 := hB1.frozen 3
  have f4 := hB1.frozen 4
  clear hu hB1
  go_wp2
  have hB := ((((H1.out.2.set 0 (.int .i64 0)).set 1 (.int .i64 0)).set 2 (.int .i64 0)).set 3 (.bool false)).set 4 (.slice none 0 0)
  have hU := ((((Upd.set w1 w.heap.size 0 (.int .i64 0)).trans (Upd.set _ _ 1 (.int .i64 0))).trans (Upd.set _ _ 2 (.int .i64 0))).trans (Upd.set _ _ 3 (.bool false))).trans (Upd.set _ _ 4 (.slice none 0 0))
  refine bodyPost_ret (results_blk2 rfl rfl hB Tryz.underlying59 rfl Tryz.sizeE rfl) rfl ⟨rfl, H1.out.1.old hU⟩
set_option maxRecDepth 20000 in
set_option maxHeartbeats 4000000 in
theorem head_any {w : World} (g b off n c p q : Nat) (x : Int) (M : List Int) (hR : Rdb w g b off n c p q) (hM : Rd .u8 w b off M) (uM : U8s M) (hMl : M.length = q) (hq : q ≤ n) (hn : n ≤ 16777216) (hb : b < w.heap.size) (hbg : b ≠ g) (hp : p < q) (hx : M.getD p 0 = x) :
    Calls Tryz.prog 85 #[.pointer (some ⟨g, 0, none⟩)] w fun e w' => (∃ t : Int, (∀ v j, tagS M p = .inr (v, j) → t = v) ∧ e = .returned (.tuple #[.agg #[.int .i64 0, .int .i64 (x / 64), .int .i64 t, .bool (decide (x / 32 % 2 = 1)), .slice none 0 0], (tagS M p).er])) ∧ Upd w w' g ∧ Stands (tagS M p) fun j => Rdb w' g b off n c j q := by
  have hxu := uM.at p
  rw [hx] at hxu
  obtain ⟨O, hO⟩ : ∃ O, tagS M p = O := ⟨_, rfl⟩
  obtain ⟨cl, hcl⟩ : ∃ cl, x / 64 = cl := ⟨_, rfl⟩
  obtain ⟨co, hco⟩ : ∃ co : Bool, decide (x / 32 % 2 = 1) = co := ⟨_, rfl⟩
  obtain ⟨tg, htg⟩ : ∃ tg, x % 32 = tg := ⟨_, rfl⟩
  have e31 := and_31u x hxu
  rw [htg] at e31
  have e32 := and_32u x hxu
  rw [hco] at e32
  have HX : Hid (Rdb w g b off n c p q ∧ Rd .u8 w b off M ∧ U8s M ∧ M.length = q ∧ M.getD p 0 = x ∧ U8 x ∧ tagS M p = O ∧ x / 64 = cl ∧ x % 32 = tg) := ⟨hR, hM, uM, hMl, hx, hxu, hO, hcl, htg⟩
  have hgl := hR.lt
  have hcx : w.cell? ⟨b, off + p, none⟩ = some (.int .u8 x) := by rw [hM p (by omega), hx]
  have HCX : Hid (w.cell? ⟨b, off + p, none⟩ = some (.int .u8 x)) := hcx
  have x0 := hxu.1
  have x1 := hxu.2
  have tg0 : 0 ≤ tg := by omega
  have tg1 : tg ≤ 31 := by omega
  have cl0 : 0 ≤ cl := by omega
  have cl1 : cl ≤ 3 := by omega
  rw [hO, hco]
  clear hR hM uM hMl hx hxu hO hcx
  obtain ⟨y, hy⟩ : ∃ y, bits .and .u8 x 32 = y := ⟨_, rfl⟩
  rw [hy] at e32
  have HC : Hid ((y != 0) = co ∧ decide (x / 32 % 2 = 1) = co) := ⟨e32, hco⟩
  clear htg hco
  obtain ⟨p1, hp1⟩ : ∃ p1, p + 1 = p1 := ⟨_, rfl⟩
  have HP1 : Hid (p + 1 = p1) := hp1
  have d2' : (p1 : Int) - 1 = (p : Int) := by omega
  go_enter Tryz.func85, Tryz.ntmps85
  go_wp2_with fail
  refine (next_any g b off n c p q x (HX.out.1.alloc _) hp hq hn (by rw [← HCX.out]; exact (al1 _).cell (p := ⟨b, off + p, none⟩) hb)).mono ?_
  rintro e w1 ⟨rfl, hu, hr⟩
  rw [hp1] at hr
  have hB1 : Blk 59 w1 w.heap.size zE := hu.blk (Blk.new _ w _) (by omega)
  have H1 : Hid (Upd (w.alloc (.cells zE.toArray 59)) w1 g ∧ Rdb w1 g b off n c p1 q ∧ Blk 59 w1 w.heap.size zE) := ⟨hu, hr, hB1⟩
  have d0 : w1.cell? ⟨w.heap.size, 0, none⟩ = some (.int .i64 0) := hB1.cell 0
  have d1 : w1.cell? ⟨w.heap.size, 1, none⟩ = some (.int .i64 0) := hB1.cell 1
  have d2 : w1.cell? ⟨w.heap.size, 2, none⟩ = some (.int .i64 0) := hB1.cell 2
  have d3 : w1.cell? ⟨w.heap.size, 3, none⟩ = some (.bool false) := hB1.cell 3
  have d4 : w1.cell? ⟨w.heap.size, 4, none⟩ = some (.slice none 0 0) := hB1.cell 4
  have f0 := hB1.frozen 0
  have f1 := hB1.frozen 1
  have f2 := hB1.frozen 2
  have f3 := hB1.frozen 3
  have f4 := hB1.frozen 4
  clear hu hr hB1 hp1
  go_upto_region 5 with (fail)
  refine wp_gen (fun W => Upd w W g ∧ Rdb W g b off n c p1 q ∧ Blk 59 W w.heap.size [.int .i64 0, .int .i64 cl, .int .i64 tg, .bool co, .slice none 0 0]) ?_ ?_
  · have hU := ((Upd.set w1 w.heap.size 1 (.int .i64 cl)).trans (Upd.set _ _ 3 (.bool (y != 0)))).trans (Upd.set _ _ 2 (.int .i64 tg))
    have hB := ((H1.out.2.2.set 1 (.int .i64 cl)).set 3 (.bool (y != 0))).set 2 (.int .i64 tg)
    rw [HC.out.1] at hU hB
    exact ⟨H1.out.1.old hU, hU.blk H1.out.2.1 (by omega), hB⟩
  rintro w2 ⟨hu2, hr2, hb2⟩
  have H2 : Hid (Upd w w2 g ∧ Rdb w2 g b off n c p1 q ∧ Blk 59 w2 w.heap.size [.int .i64 0, .int .i64 cl, .int .i64 tg, .bool co, .slice none 0 0]) := ⟨hu2, hr2, hb2⟩
  clear d0 d1 d2 d3 d4 f0 f1 f2 f3 f4
  have d0 : w2.cell? ⟨w.heap.size, 0, none⟩ = some (.int .i64 0) := hb2.cell 0
  have d1 : w2.cell? ⟨w.heap.size, 1, none⟩ = some (.int .i64 cl) := hb2.cell 1
  have d2 : w2.cell? ⟨w.heap.size, 2, none⟩ = some (.int .i64 tg) := hb2.cell 2
  have d3 : w2.cell? ⟨w.heap.size, 3, none⟩ = some (.bool co) := hb2.cell 3
  have d4 : w2.cell? ⟨w.heap.size, 4, none⟩ = some (.slice none 0 0) := hb2.cell 4
  have f0 := hb2.frozen 0
  have f1 := hb2.frozen 1
  have f2 := hb2.frozen 2
  have f3 := hb2.frozen 3
  have f4 := hb2.frozen 4
  have r1 : w2.cell? ⟨g, 1, none⟩ = some (.int .i64 p1) := hr2.cell 1
  have HT : Hid (O = if tg = 31 then lng M p1 0 else if tg = 0 ∧ x < 64 then .inl (30, p) else .inr (tg, p1)) := by
    show _ = _
    rw [← HX.out.2.2.2.2.2.2.1]
    unfold tagS
    rw [HX.out.2.2.2.2.1, HX.out.2.2.2.2.2.2.2.2, HP1.out]
  have hx4 : x < 64 ↔ cl = 0 := by omega
  have hwg : ¬ w.heap.size = g := by omega
  have hgw : ¬ g = w.heap.size := by omega
  clear hu2 hr2 hb2 hy e31 e32
  by_cases q1 : tg = 31
  · subst q1
    have HL : Hid (lng M p1 0 = O) := by show _ = _; rw [HT.out, if_pos rfl]
    clear d0 d1 d2 d3 d4 f0 f1 f2 f3 f4 r1
    have d2 : w2.cell? ⟨w.heap.size, 2, none⟩ = some (.int .i64 31) := H2.out.2.2.cell 2
    go_wp2_with fail
    refine (longTag_any g b off n c p1 q M H2.out.2.1 (H2.out.1.rd hb HX.out.2.1 hbg) HX.out.2.2.1 HX.out.2.2.2.1 hq hn (Nat.lt_of_lt_of_le hb H2.out.1.size) hbg (by have := HP1.out; omega)).mono ?_
    rw [HL.out]
    rintro e w3 ⟨rfl, hu3, hs3⟩
    obtain ⟨v, hv⟩ : ∃ v, O.v = v := ⟨_, rfl⟩
    obtain ⟨er, her⟩ : ∃ er, O.er = er := ⟨_, rfl⟩
    have hB3 := hu3.blk H2.out.2.2 (by omega)
    have H3 : Hid (Upd w w3 g ∧ (Stands O fun j => Rdb w3 g b off n c j q) ∧ Blk 59 w3 w.heap.size [.int .i64 0, .int .i64 cl, .int .i64 31, .bool co, .slice none 0 0] ∧ O.v = v ∧ O.er = er) := ⟨H2.out.1.trans hu3, hs3, hB3, hv, her⟩
    rw [hv, her]
    clear hu3 hs3 hv her d2
    have d0 : w3.cell? ⟨w.heap.size, 0, none⟩ = some (.int .i64 0) := hB3.cell 0
    have d1 : w3.cell? ⟨w.heap.size, 1, none⟩ = some (.int .i64 cl) := hB3.cell 1
    have d2 : w3.cell? ⟨w.heap.size, 2, none⟩ = some (.int .i64 31) := hB3.cell 2
    have d3 : w3.cell? ⟨w.heap.size, 3, none⟩ = some (.bool co) := hB3.cell 3
    have d4 : w3.cell? ⟨w.heap.size, 4, none⟩ = some (.slice none 0 0) := hB3.cell 4
    have f0 := hB3.frozen 0
    have f1 := hB3.frozen 1
    have f2 := hB3.frozen 2
    have f3 := hB3.frozen 3
    have f4 := hB3.frozen 4
    clear hB3
    go_wp2
    have hB := (((((H3.out.2.2.1.set 2 (.int .i64 v)).set 0 (.int .i64 0)).set 1 (.int .i64 cl)).set 2 (.int .i64 v)).set 3 (.bool co)).set 4 (.slice none 0 0)
    have hU := (((((Upd.set w3 w.heap.size 2 (.int .i64 v)).trans (Upd.set _ _ 0 (.int .i64 0))).trans (Upd.set _ _ 1 (.int .i64 cl))).trans (Upd.set _ _ 2 (.int .i64 v))).trans (Upd.set _ _ 3 (.bool co))).trans (Upd.set _ _ 4 (.slice none 0 0))
    refine bodyPost_ret (results_blk2 rfl rfl hB Tryz.underlying59 rfl Tryz.sizeE rfl) rfl ⟨⟨v, ?_, ?_⟩, H3.out.1.more hU (Nat.le_refl _), fun v' j' h => hU.blk (H3.out.2.1 v' j' h) (by omega)⟩
    · intro v' j' h
      rw [← H3.out.2.2.2.1, h]
      rfl
    · rw [H3.out.2.2.2.2, HX.out.2.2.2.2.2.2.2.1]; rfl
  · have q1b : (tg == 31) = false := by simpa using q1
    by_cases q2 : cl = 0
    · have q2b : (cl == 0) = true := by simpa using q2
      by_cases q3 : tg = 0
      · have q3b : (tg == 0) = true := by simpa using q3
        have HE : Hid (O = .inl (30, p)) := by show _ = _; rw [HT.out, if_neg q1, if_pos ⟨q3, hx4.2 q2⟩]
        clear q2 q3 hx4
        go_wp2_with (go_at_call 59; refine (fault_any 30 p).mono ?_; rintro e w4 ⟨rfl, rfl⟩)
        have hB := ((((H2.out.2.2.set 0 (.int .i64 0)).set 1 (.int .i64 cl)).set 2 (.int .i64 tg)).set 3 (.bool co)).set 4 (.slice none 0 0)
        have hU := ((((Upd.set w2 w.heap.size 0 (.int .i64 0)).trans (Upd.set _ _ 1 (.int .i64 cl))).trans (Upd.set _ _ 2 (.int .i64 tg))).trans (Upd.set _ _ 3 (.bool co))).trans (Upd.set _ _ 4 (.slice none 0 0))
        refine bodyPost_ret (results_blk2 rfl rfl hB Tryz.underlying59 rfl Tryz.sizeE rfl) rfl ⟨⟨tg, ?_, ?_⟩, H2.out.1.more hU (Nat.le_refl _), ?_⟩
        · rw [HE.out]; intro v' j' h; cases h
        · rw [HE.out, HX.out.2.2.2.2.2.2.2.1]; rfl
        · rw [HE.out]; intro v' j' h; cases h
      · have q3b : (tg == 0) = false := by simpa using q3
        have HE : Hid (O = .inr (tg, p1)) := by show _ = _; rw [HT.out, if_neg q1, if_neg (fun h => q3 h.1)]
        clear q2 q3 hx4
        go_wp2
        have hB := ((((H2.out.2.2.set 0 (.int .i64 0)).set 1 (.int .i64 cl)).set 2 (.int .i64 tg)).set 3 (.bool co)).set 4 (.slice none 0 0)
        have hU := ((((Upd.set w2 w.heap.size 0 (.int .i64 0)).trans (Upd.set _ _ 1 (.int .i64 cl))).trans (Upd.set _ _ 2 (.int .i64 tg))).trans (Upd.set _ _ 3 (.bool co))).trans (Upd.set _ _ 4 (.slice none 0 0))
        refine bodyPost_ret (results_blk2 rfl rfl hB Tryz.underlying59 rfl Tryz.sizeE rfl) rfl ⟨⟨tg, ?_, ?_⟩, H2.out.1.more hU (Nat.le_refl _), ?_⟩
        · rw [HE.out]; intro v' j' h; cases h; rfl
        · rw [HE.out, HX.out.2.2.2.2.2.2.2.1]; rfl
        · rw [HE.out]; intro v' j' h; cases h; exact hU.blk H2.out.2.1 (by omega)
    · have q2b : (cl == 0) = false := by simpa using q2
      have HE : Hid (O = .inr (tg, p1)) := by show _ = _; rw [HT.out, if_neg q1, if_neg (fun h => q2 (hx4.1 h.2))]
      clear q2 hx4
      go_wp2
      have hB := ((((H2.out.2.2.set 0 (.int .i64 0)).set 1 (.int .i64 cl)).set 2 (.int .i64 tg)).set 3 (.bool co)).set 4 (.slice none 0 0)
      have hU := ((((Upd.set w2 w.heap.size 0 (.int .i64 0)).trans (Upd.set _ _ 1 (.int .i64 cl))).trans (Upd.set _ _ 2 (.int .i64 tg))).trans (Upd.set _ _ 3 (.bool co))).trans (Upd.set _ _ 4 (.slice none 0 0))
      refine bodyPost_ret (results_blk2 rfl rfl hB Tryz.underlying59 rfl Tryz.sizeE rfl) rfl ⟨⟨tg, ?_, ?_⟩, H2.out.1.more hU (Nat.le_refl _), ?_⟩
      · rw [HE.out]; intro v' j' h; cases h; rfl
      · rw [HE.out, HX.out.2.2.2.2.2.2.2.1]; rfl
      · rw [HE.out]; intro v' j' h; cases h; exact hU.blk H2.out.2.1 (by omega)
end Go.Proofs.YtefebamomdcaaaaGreatDoor
