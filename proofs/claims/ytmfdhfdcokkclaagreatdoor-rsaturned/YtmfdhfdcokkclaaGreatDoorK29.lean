/-
  Rsa: signatures in the first way: Verify of the program and of the reference.
-/
import Derived.Test.YtmfdhfdcokkclaaGreatDoorK28
namespace Go.Proofs.YtmfdhfdcokkclaaGreatDoor
open Go.RowKit
set_option maxRecDepth 20000
theorem namB_u8 {alg : Int} {X : List Int} (h : isD alg X.length = true) (uX : U8s X) : U8s (namB alg X) := by
  unfold isD at h
  simp at h
  have ha : Alg4 alg := siz_pos.1 h.1
  have hz : X.length ≤ 64 := by rw [h.2]; rcases ha with rfl | rfl | rfl | rfl <;> decide
  have ho := oidB_u8 ha
  have h5 : U8s (elB 5 []) := elB_u8 (by decide) (by intro x hx; simp at hx) (by decide)
  have h6 : U8s (elB 6 (oidB alg)) := elB_u8 (by decide) ho.1 (by omega)
  have h65 : U8s (elB 6 (oidB alg) ++ elB 5 []) := fun x hx => (List.mem_append.1 hx).elim (h6 x) (h5 x)
  have h7 := elB_u8 (tag := 16) (by decide) h65 (by simp [elB_len]; omega)
  have h4 := elB_u8 (tag := 4) (by decide) uX (by omega)
  exact elB_u8 (by decide) (fun x hx => (List.mem_append.1 hx).elim (h7 x) (h4 x)) (by simp [elB_len]; omega)
theorem padV_u8 {alg : Int} {X : List Int} (n : Int) (uX : U8s X) : U8s (padV alg X n) := by
  unfold padV
  split
  · rename_i h
    unfold padE at h
    split at h
    · cases h
    · rename_i h1
      have hD : isD alg X.length = true := by simpa using fun h => h1 (.inl h)
      have hn := namB_u8 hD uX
      intro x hx
      unfold padB at hx
      simp at hx
      rcases hx with h | h | h | h | h
      · unfold U8; omega
      · unfold U8; omega
      · unfold U8; omega
      · unfold U8; omega
      · exact hn x h
  · intro x hx; simp at hx
theorem raw_u8 {ns es sg : List Int} : U8s (rawS ns es sg).1 := by
  unfold rawS
  split
  · intro x hx; simp at hx
  · split
    · intro x hx; simp at hx
    · split
      · intro x hx; simp at hx
      · unfold Nt.bytS
        split
        · intro x hx; simp at hx
        · split
          · intro x hx; simp at hx
          · split
            · intro x hx; simp at hx
            · exact Nt.beb_u8 _ _
/-- What Verify tells. -/
def verS (alg : Int) (X ns es sg : List Int) : Int :=
  if isD alg X.length = false then 1 else if (rawS ns es sg).2 ≠ 0 then (rawS ns es sg).2
  else if padE alg X (rawS ns es sg).1.length ≠ 0 then 112 else if padV alg X (rawS ns es sg).1.length ≠ (rawS ns es sg).1 then 112 else 0
set_option maxHeartbeats 4000000 in
theorem Verify_any {w : World} (a a' : Option Addr) (n c n' c' : Nat) (ns es : List Int) (hn : Sl .u32 w (.slice a n c) ns) (un : U32s ns) (ln : ns.length = n) (he : Sl .u32 w (.slice a' n' c') es) (ue : U32s es) (le : es.length = n') (hb : n ≤ 600) (hb' : n' ≤ 600)
    (b : Option Addr) (m d : Nat) (sg : List Int) (hs : Sl .u8 w (.slice b m d) sg) (us : U8s sg) (ls : sg.length = m)
    (alg : Int) (f : Option Addr) (k g : Nat) (X : List Int) (hX : Sl .u8 w (.slice f k g) X) (uX : U8s X) (lX : X.length = k) :
    Calls Tryz.prog 12 #[.agg #[.slice a n c, .slice a' n' c'], .int .i64 alg, .slice f k g, .slice b m d] w fun e w' => e = .returned (.int .i64 (verS alg X ns es sg)) ∧ Below w.heap.size w w' := by
  have HRw : Hid (∀ W, Below w.heap.size w W → Calls Tryz.prog 28 #[.agg #[.slice a n c, .slice a' n' c'], .slice b m d] W fun e w' => ∃ r, e = .returned (.tuple #[r, .int .i64 (rawS ns es sg).2]) ∧ Sl .u8 w' r (rawS ns es sg).1 ∧ Below W.heap.size W w') := fun W hW => Raw_any a a' n c n' c' ns es (below_sl hW hn) un ln (below_sl hW he) ue le hb hb' b m d sg (below_sl hW hs) us ls
  have HPd : Hid (∀ W (z : Int), Below w.heap.size w W → Calls Tryz.prog 17 #[.int .i64 alg, .slice f k g, .int .i64 z] W fun e w' => ∃ v, e = .returned (.tuple #[v, .int .i64 (padE alg X z)]) ∧ Sl .u8 w' v (padV alg X z) ∧ Below W.heap.size W w') := fun W z hW => PadC alg f k g X (below_sl hW hX) uX lX z
  have HU : Hid (U8s (rawS ns es sg).1 ∧ ∀ z, U8s (padV alg X z)) := ⟨raw_u8, fun z => padV_u8 z uX⟩
  have HID : Hid (∀ W, Calls Tryz.prog 27 #[.int .i64 alg, .slice f k g] W fun e w' => e = .returned (.bool (isD alg k)) ∧ w' = W) := fun W => isDigest_any alg f k g
  obtain ⟨V, hV⟩ : ∃ V, verS alg X ns es sg = V := ⟨_, rfl⟩
  have HV : Hid ((if isD alg k = false then 1 else if (rawS ns es sg).2 ≠ 0 then (rawS ns es sg).2
    else if padE alg X (rawS ns es sg).1.length ≠ 0 then 112 else if padV alg X (rawS ns es sg).1.length ≠ (rawS ns es sg).1 then 112 else 0) = V) := by show _ = _; rw [← hV, ← lX]; rfl
  rw [hV]
  obtain ⟨Rl, hRl⟩ : ∃ Rl, (rawS ns es sg).1 = Rl := ⟨_, rfl⟩
  obtain ⟨E, hE⟩ : ∃ E, (rawS ns es sg).2 = E := ⟨_, rfl⟩
  rw [hRl, hE] at HRw HV
  rw [hRl] at HU
  clear hn un ln he ue le hb hb' hs us ls hX uX lX hV hRl hE
  go_enter Tryz.func12, Tryz.ntmps12
  go_upto_region 1 with (refine Sh.wpList_boxR rfl 27 (.tmp 0) rfl #[.slice a n c, .slice a' n' c'] rfl ?_)
  refine Sh.wp_gen (fun W => Blk 27 W w.heap.size [.slice a n c, .slice a' n' c'] ∧ Below w.heap.size w W) ⟨Blk.new _ w _, al1 _⟩ ?_
  rintro W2 ⟨hB, hBw⟩
  have H2 : Hid (Below w.heap.size w W2 ∧ W2.rangeAt w.heap.size 0 [.slice a n c, .slice a' n' c']) := ⟨hBw, hB.whole⟩
  clear hB hBw
  cases hD : isD alg k with
  | false =>
    have HQ : Hid (1 = V) := by show _ = _; rw [← HV.out]; exact (if_pos hD).symm
    rw [hD] at HID
    clear hD HV
    go_wp2_with (go_at_call 27; refine (HID.out _).mono ?_; rintro e w' ⟨rfl, rfl⟩)
    go_ret
    exact ⟨by rw [← HQ.out]; rfl, H2.out.1⟩
  | true =>
    have HQ : Hid ((if E ≠ 0 then E else if padE alg X Rl.length ≠ 0 then 112 else if padV alg X Rl.length ≠ Rl then 112 else 0) = V) := by show _ = _; rw [← HV.out]; exact (if_neg (by rw [hD]; decide)).symm
    rw [hD] at HID
    clear hD HV
    by_cases h0 : E = 0
    · have HQ2 : Hid ((if padE alg X Rl.length ≠ 0 then 112 else if padV alg X Rl.length ≠ Rl then 112 else 0) = V) := by show _ = _; rw [← HQ.out]; exact (if_neg (by simpa using h0)).symm
      subst h0
      clear HQ
      obtain ⟨PE, hPE⟩ : ∃ PE, padE alg X Rl.length = PE := ⟨_, rfl⟩
      obtain ⟨PV, hPV⟩ : ∃ PV, padV alg X Rl.length = PV := ⟨_, rfl⟩
      rw [hPE, hPV] at HQ2
      have HP2 : Hid (∀ W, Below w.heap.size w W → Calls Tryz.prog 17 #[.int .i64 alg, .slice f k g, .int .i64 Rl.length] W fun e w' => ∃ v, e = .returned (.tuple #[v, .int .i64 PE]) ∧ Sl .u8 w' v PV ∧ Below W.heap.size W w') := fun W hW => by
        have := HPd.out W Rl.length hW; rw [hPE, hPV] at this; exact this
      have HU2 : Hid (U8s Rl ∧ U8s PV) := ⟨HU.out.1, by rw [← hPV]; exact HU.out.2 _⟩
      clear hPE hPV HPd HU
      obtain ⟨rn, hrn⟩ : ∃ rn, Rl.length = rn := ⟨_, rfl⟩
      go_wp2_with (first
        | (go_at_call 27; refine (HID.out _).mono ?_; rintro e w' ⟨rfl, rfl⟩)
        | (refine wpList_load_mid rfl 27 (.tmp 4) rfl w.heap.size 0 rfl [.slice a n c, .slice a' n' c'] _ H2.out.2 Tryz.underlying27 rfl (by kernel_rfl) ?_))
      refine (HRw.out _ H2.out.1).mono ?_
      rintro e w3 ⟨r3, rfl, hr3, hb3⟩
      obtain ⟨a3, c3, hf3⟩ := hr3.form
      subst hf3
      have H3 : Hid (Sl .u8 w3 (.slice a3 Rl.length c3) Rl ∧ Below w.heap.size w w3) := ⟨hr3, below_via H2.out.1 hb3 (Nat.le_refl _)⟩
      clear hr3 hb3
      rw [hrn] at H3 HP2 ⊢
      clear hrn
      by_cases h1 : PE = 0
      · subst h1
        obtain ⟨Q, hQ⟩ : ∃ Q, decide (Rl = PV) = Q := ⟨_, rfl⟩
        have HQ3 : Hid ((if Q then (0 : Int) else 112) = V) := by
          show _ = _
          rw [← HQ2.out, ← hQ]
          by_cases h : Rl = PV
          · simp [h]
          · simp [h, Ne.symm h]
        have HQd : Hid (decide (Rl = PV) = Q) := hQ
        clear hQ HQ2
        go_wp2_with fail
        refine (HP2.out _ H3.out.2).mono ?_
        rintro e w4 ⟨r4, rfl, hr4, hb4⟩
        obtain ⟨a4, c4, hf4⟩ := hr4.form
        subst hf4
        have H4 : Hid (Sl .u8 w4 (.slice a3 rn c3) Rl ∧ Sl .u8 w4 (.slice a4 PV.length c4) PV ∧ Below w.heap.size w w4) := ⟨below_sl hb4 H3.out.1, hr4, below_via H3.out.2 hb4 (Nat.le_refl _)⟩
        clear hr4 hb4 H3
        cases Q with
        | true =>
          go_wp2_with (go_at_call 29; refine (BEq_any _ _ _ _ _ _ Rl PV H4.out.1 H4.out.2.1 HU2.out.1 HU2.out.2 true HQd.out).mono ?_; rintro e w' ⟨rfl, rfl⟩)
          go_ret
          exact ⟨by rw [← HQ3.out]; rfl, H4.out.2.2⟩
        | false =>
          go_wp2_with (go_at_call 29; refine (BEq_any _ _ _ _ _ _ Rl PV H4.out.1 H4.out.2.1 HU2.out.1 HU2.out.2 false HQd.out).mono ?_; rintro e w' ⟨rfl, rfl⟩)
          go_ret
          exact ⟨by rw [← HQ3.out]; rfl, H4.out.2.2⟩
      · have d1 : (PE != 0) = true := by simpa using h1
        have HQ3 : Hid (112 = V) := by show _ = _; rw [← HQ2.out]; exact (if_pos h1).symm
        clear HQ2 h1
        go_wp2_with (go_at_call 17; refine (HP2.out _ H3.out.2).mono ?_; rintro e w4 ⟨r4, rfl, hr4, hb4⟩; have H4 : Hid (Below w.heap.size w w4) := below_via H3.out.2 hb4 (Nat.le_refl _); clear hr4 hb4)
        go_ret
        exact ⟨by rw [← HQ3.out]; rfl, H4.out⟩
    · have d1 : (E != 0) = true := by simpa using h0
      have HQ2 : Hid (E = V) := by show _ = _; rw [← HQ.out]; exact (if_pos h0).symm
      clear HQ h0
      go_wp2_with (first
        | (go_at_call 27; refine (HID.out _).mono ?_; rintro e w' ⟨rfl, rfl⟩)
        | (refine wpList_load_mid rfl 27 (.tmp 4) rfl w.heap.size 0 rfl [.slice a n c, .slice a' n' c'] _ H2.out.2 Tryz.underlying27 rfl (by kernel_rfl) ?_)
        | (go_at_call 28; refine (HRw.out _ H2.out.1).mono ?_; rintro e w3 ⟨r3, rfl, hr3, hb3⟩; have H3 : Hid (Below w.heap.size w w3) := below_via H2.out.1 hb3 (Nat.le_refl _); clear hr3 hb3))
      go_ret
      exact ⟨by rw [← HQ2.out]; rfl, H3.out⟩
end Go.Proofs.YtmfdhfdcokkclaaGreatDoor
/-
  Primes: Fermat, Pocklington (pure).
-/
namespace Go.Proofs.YtmfdhfdcokkclaaGreatDoor.Pm
/-- A prime number. -/
def Pr (p : Nat) : Prop := 2 ≤ p ∧ ∀ m, m ∣ p → m = 1 ∨ m = p
theorem Pr.cop {p k : Nat} (hp : Pr p) (h : ¬ p ∣ k) : Nat.Coprime p k := by
  rcases hp.2 _ (Nat.gcd_dvd_left p k) with h1 | h1
  · exact h1
  · exact absurd (h1 ▸ Nat.gcd_dvd_right p k) h
theorem Pr.mul {p a b : Nat} (hp : Pr p) (h : p ∣ a * b) : p ∣ a ∨ p ∣ b := by
  by_cases ha : p ∣ a
  · exact .inl ha
  · exact .inr ((hp.cop ha).dvd_of_dvd_mul_left h)
/-- Every number above 1 has a prime divisor. -/
theorem hasPr (n : Nat) (h : 2 ≤ n) : ∃ p, Pr p ∧ p ∣ n := by
  induction n using Nat.strongRecOn with
  | ind n ih =>
    by_cases hp : Pr n
    · exact ⟨n, hp, Nat.dvd_refl n⟩
    · have : ∃ m, m ∣ n ∧ m ≠ 1 ∧ m ≠ n := by
        refine Classical.byContradiction fun hc => hp ⟨h, fun m hm => ?_⟩
        by_cases h1 : m = 1
        · exact .inl h1
        · by_cases h2 : m = n
          · exact .inr h2
          · exact absurd ⟨m, hm, h1, h2⟩ hc
      obtain ⟨m, hm, h1, h2⟩ := this
      have hle := Nat.le_of_dvd (by omega) hm
      have h0 : m ≠ 0 := by rintro rfl; have := Nat.eq_zero_of_zero_dvd hm; omega
      obtain ⟨p, hp, hd⟩ := ih m (by omega) (by omega)
      exact ⟨p, hp, Nat.dvd_trans hd hm⟩
/-- Binomials. -/
def C : Nat → Nat → Nat
  | _, 0 => 1
  | 0, _ + 1 => 0
  | n + 1, k + 1 => C n k + C n (k + 1)
theorem C_zero (n : Nat) : C n 0 = 1 := by cases n <;> rfl
theorem C_succ (n k : Nat) : C (n + 1) (k + 1) = C n k + C n (k + 1) := rfl
theorem C_big (n k : Nat) (h : n < k) : C n k = 0 := by
  induction n generalizing k with
  | zero => obtain ⟨k, rfl⟩ : ∃ j, k = j + 1 := ⟨k - 1, by omega⟩; rfl
  | succ n ih => obtain ⟨k, rfl⟩ : ∃ j, k = j + 1 := ⟨k - 1, by omega⟩; rw [C_succ, ih k (by omega), ih (k + 1) (by omega)]
theorem C_self (n : Nat) : C n n = 1 := by
  induction n with
  | zero => rfl
  | succ n ih => rw [C_succ, ih, C_big n (n + 1) (by omega)]
theorem C_abs (n k : Nat) : (k + 1) * C (n + 1) (k + 1) = (n + 1) * C n k := by
  induction n generalizing k with
  | zero => cases k with
    | zero => rfl
    | succ k => rw [C_big _ _ (by omega), C_big _ _ (by omega)]; simp
  | succ n ih =>
    cases k with
    | zero =>
      have h := ih 0
      rw [C_zero] at h
      rw [C_succ, C_zero, Nat.mul_add, h]
      omega
    | succ k =>
      have h1 := ih k
      have h2 := ih (k + 1)
      rw [C_succ (n + 1) (k + 1), C_succ n k]
      rw [C_succ n k] at h1
      rw [Nat.mul_add, h2]
      have e : (k + 1 + 1) * (C n k + C n (k + 1)) = (k + 1) * (C n k + C n (k + 1)) + (C n k + C n (k + 1)) := by rw [Nat.succ_mul]
      rw [e, h1]
      simp only [Nat.mul_add, Nat.add_mul]
      omega
theorem C_prime {p k : Nat} (hp : Pr p) (h0 : 0 < k) (h1 : k < p) : p ∣ C p k := by
  obtain ⟨k, rfl⟩ : ∃ j, k = j + 1 := ⟨k - 1, by omega⟩
  obtain ⟨n, rfl⟩ : ∃ j, p = j + 1 := ⟨p - 1, by omega⟩
  have h := C_abs n k
  have hd : n + 1 ∣ (k + 1) * C (n + 1) (k + 1) := ⟨_, h⟩
  rcases hp.mul hd with h | h
  · exact absurd (Nat.le_of_dvd (by omega) h) (by omega)
  · exact h
/-- The terms below j of (a + 1) ^ n. -/
def Sm (n a : Nat) : Nat → Nat
  | 0 => 0
  | j + 1 => Sm n a j + C n j * a ^ j
theorem Sm_succ (n a j : Nat) : Sm (n + 1) a (j + 1) = a * Sm n a j + Sm n a (j + 1) := by
  induction j with
  | zero => simp [Sm, C_zero]
  | succ j ih =>
    have e : Sm (n + 1) a (j + 2) = Sm (n + 1) a (j + 1) + C (n + 1) (j + 1) * a ^ (j + 1) := rfl
    have e2 : Sm n a (j + 2) = Sm n a (j + 1) + C n (j + 1) * a ^ (j + 1) := rfl
    have e3 : Sm n a (j + 1) = Sm n a j + C n j * a ^ j := rfl
    have e4 : a * Sm n a (j + 1) = a * Sm n a j + a * (C n j * a ^ j) := by rw [e3, Nat.mul_add]
    have e5 : a * (C n j * a ^ j) = C n j * a ^ (j + 1) := by rw [Nat.pow_succ, Nat.mul_comm a, Nat.mul_assoc]
    rw [e, ih, e2, e4, e5, C_succ, Nat.add_mul]
    omega
theorem binom (n a : Nat) : (a + 1) ^ n = Sm n a (n + 1) := by
  induction n with
  | zero => simp [Sm, C]
  | succ n ih =>
    have e : Sm n a (n + 2) = Sm n a (n + 1) := by
      show Sm n a (n + 1) + C n (n + 1) * a ^ (n + 1) = _
      rw [C_big n (n + 1) (by omega)]; simp
    rw [Sm_succ, e, ← ih, Nat.pow_succ, Nat.mul_add, Nat.mul_one, Nat.mul_comm]
theorem Sm_mod {p : Nat} (hp : Pr p) (a j : Nat) (h0 : 0 < j) (h : j ≤ p) : Sm p a j % p = 1 % p := by
  induction j with
  | zero => omega
  | succ j ih =>
    by_cases hj : j = 0
    · subst hj; simp [Sm, C_zero]
    · show (Sm p a j + C p j * a ^ j) % p = _
      have hd : p ∣ C p j * a ^ j := Nat.dvd_trans (C_prime hp (by omega) (by omega)) (Nat.dvd_mul_right _ _)
      rw [Nat.add_mod, Nat.mod_eq_zero_of_dvd hd, Nat.add_zero, Nat.mod_mod, ih (by omega) (by omega)]
theorem dvd_of_mod {a b n : Nat} (h : a % n = b % n) : n ∣ a - b := Nat.dvd_of_mod_eq_zero (Nat.sub_mod_eq_zero_of_mod_eq h)
theorem mod_of_dvd {a b n : Nat} (hb : b ≤ a) (h : n ∣ a - b) : a % n = b % n := by
  obtain ⟨c, hc⟩ := h
  have : a = b + n * c := by omega
  rw [this, Nat.add_mul_mod_self_left]
/-- Fermat's little theorem. -/
theorem fermat {p : Nat} (hp : Pr p) (a : Nat) : a ^ p % p = a % p := by
  induction a with
  | zero => have := hp.1; rw [Nat.zero_pow (by omega)]
  | succ a ih =>
    rw [binom]
    show (Sm p a p + C p p * a ^ p) % p = _
    rw [C_self, Nat.one_mul, Nat.add_mod, Sm_mod hp a p (by have := hp.1; omega) (Nat.le_refl _), ih, ← Nat.add_mod, Nat.add_comm]
theorem fermat1 {p : Nat} (hp : Pr p) (a : Nat) (ha : ¬ p ∣ a) : a ^ (p - 1) % p = 1 % p := by
  have h := fermat hp a
  obtain ⟨n, rfl⟩ : ∃ j, p = j + 1 := ⟨p - 1, by have := hp.1; omega⟩
  show a ^ n % (n + 1) = _
  have hc := hp.cop ha
  by_cases h1 : 1 ≤ a ^ n
  · have hd : n + 1 ∣ a * (a ^ n - 1) := by
      have e : a * (a ^ n - 1) = a ^ (n + 1) - a := by rw [Nat.mul_sub, Nat.mul_one, Nat.pow_succ, Nat.mul_comm]
      rw [e]
      exact dvd_of_mod h
    have := hc.dvd_of_dvd_mul_left hd
    exact mod_of_dvd h1 this
  · have : a ^ n = 0 := by omega
    have ha0 : a = 0 := by
      by_cases h0 : a = 0
      · exact h0
      · have := Nat.pow_pos (n := n) (Nat.pos_of_ne_zero h0); omega
    subst ha0
    exact absurd (Nat.dvd_zero _) ha
/-- a ^ k leaves 1. -/
def U1 (r a k : Nat) : Prop := a ^ k % r = 1 % r
theorem U1.add {r a k l : Nat} (h : U1 r a k) (g : U1 r a l) : U1 r a (k + l) := by
  unfold U1 at *
  rw [Nat.pow_add, Nat.mul_mod, h, g, ← Nat.mul_mod]
theorem U1.mul {r a k : Nat} (h : U1 r a k) (m : Nat) : U1 r a (k * m) := by
  induction m with
  | zero => unfold U1; simp
  | succ m ih => rw [Nat.mul_succ]; exact ih.add h
theorem U1.sub {r a k l : Nat} (h : U1 r a (k + l)) (g : U1 r a k) : U1 r a l := by
  unfold U1 at *
  rw [Nat.pow_add, Nat.mul_mod, g, ← Nat.mul_mod, Nat.one_mul] at h
  exact h
/-- The least exponent divides every one. -/
theorem ord_dvd {r a t k : Nat} (h0 : 0 < t) (ht : U1 r a t) (hm : ∀ j, 0 < j → j < t → ¬ U1 r a j) (hk : U1 r a k) : t ∣ k := by
  have h := Nat.div_add_mod k t
  rw [← h] at hk
  have := hk.sub (ht.mul _)
  by_cases hz : k % t = 0
  · exact Nat.dvd_of_mod_eq_zero hz
  · exact absurd this (hm _ (by omega) (Nat.mod_lt _ h0))
theorem least {P : Nat → Prop} (n : Nat) (h : P n) : ∃ t, P t ∧ ∀ j, j < t → ¬ P j := by
  induction n using Nat.strongRecOn with
  | ind n ih =>
    by_cases hc : ∃ j, j < n ∧ P j
    · obtain ⟨j, hj, hp⟩ := hc; exact ih j hj hp
    · exact ⟨n, h, fun j hj hp => hc ⟨j, hj, hp⟩⟩
theorem Pr.copow {q s : Nat} (hq : Pr q) (h : ¬ q ∣ s) (e : Nat) : Nat.Coprime (q ^ e) s := Nat.Coprime.pow_left e (hq.cop h)
theorem pow_in {t n q e : Nat} (hq : Pr q) (htn : t ∣ n) (hne : ¬ t ∣ n / q) (he : q ^ e ∣ n) : q ^ e ∣ t := by
  obtain ⟨s, rfl⟩ := htn
  have hs : ¬ q ∣ s := by
    rintro ⟨c, rfl⟩
    apply hne
    refine ⟨c, ?_⟩
    rw [Nat.mul_left_comm, Nat.mul_div_cancel_left _ (by have := hq.1; omega)]
  exact (hq.copow hs e).dvd_of_dvd_mul_right he
/-- Pocklington: what a witness says of each prime divisor. -/
theorem pock1 {N r a q e : Nat} (hr : Pr r) (hrN : r ∣ N) (hN : 2 ≤ N) (hq : Pr q) (he : q ^ e ∣ N - 1) (h1 : a ^ (N - 1) % N = 1 % N) (h2 : Nat.gcd (a ^ ((N - 1) / q) - 1) N = 1) : q ^ e ∣ r - 1 := by
  have hmod : ∀ k, a ^ k % N = 1 % N → U1 r a k := by
    intro k hk
    unfold U1
    rw [← Nat.mod_mod_of_dvd _ hrN, hk, Nat.mod_mod_of_dvd _ hrN]
  have hu := hmod _ h1
  have hna : ¬ r ∣ a := by
    intro hd
    unfold U1 at hu
    have h0 : a ^ (N - 1) % r = 0 := Nat.mod_eq_zero_of_dvd (Nat.dvd_trans hd (by
      obtain ⟨k, hk⟩ : ∃ k, N - 1 = k + 1 := ⟨N - 2, by omega⟩
      rw [hk, Nat.pow_succ]; exact Nat.dvd_mul_left _ _))
    rw [h0, Nat.mod_eq_of_lt (by have := hr.1; omega)] at hu
    omega
  have hf : U1 r a (r - 1) := fermat1 hr a hna
  obtain ⟨t, ⟨ht0, ht⟩, hl⟩ := least (P := fun t => 0 < t ∧ U1 r a t) (r - 1) ⟨by have := hr.1; omega, hf⟩
  have hm : ∀ j, 0 < j → j < t → ¬ U1 r a j := fun j h0 hj hu => hl j hj ⟨h0, hu⟩
  have d1 := ord_dvd ht0 ht hm hu
  have d2 := ord_dvd ht0 ht hm hf
  have hne : ¬ t ∣ (N - 1) / q := by
    rintro ⟨c, hc⟩
    have hU : U1 r a ((N - 1) / q) := by rw [hc]; exact ht.mul c
    have hd : r ∣ a ^ ((N - 1) / q) - 1 := dvd_of_mod hU
    have := Nat.dvd_gcd hd hrN
    rw [h2] at this
    have := Nat.le_of_dvd (by omega) this
    have := hr.1
    omega
  exact Nat.dvd_trans (pow_in hq d1 hne he) d2
/-- Where each prime divisor leaves 1 by F, each divisor does. -/
theorem all_one {N F : Nat} (hF : ∀ r, Pr r → r ∣ N → F ∣ r - 1) (m : Nat) (hm : m ∣ N) : F ∣ m - 1 := by
  induction m using Nat.strongRecOn with
  | ind m ih =>
    by_cases h2 : 2 ≤ m
    · obtain ⟨p, hp, hd⟩ := hasPr m h2
      obtain ⟨c, rfl⟩ := hd
      have hp2 := hp.1
      have hc0 : 0 < c := by
        rcases Nat.eq_zero_or_pos c with h | h
        · subst h; simp at h2
        · exact h
      have hlt : c < p * c := by
        have : 2 * c ≤ p * c := Nat.mul_le_mul_right c hp2
        omega
      obtain ⟨x, hx⟩ := ih c hlt (Nat.dvd_trans (Nat.dvd_mul_left _ _) hm)
      obtain ⟨y, hy⟩ := hF p hp (Nat.dvd_trans (Nat.dvd_mul_right _ _) hm)
      have e1 : c = F * x + 1 := by omega
      have e2 : p = F * y + 1 := by omega
      refine ⟨y * c + x, ?_⟩
      rw [e2, Nat.add_mul, Nat.one_mul, Nat.mul_add, Nat.mul_assoc]
      omega
    · have : m - 1 = 0 := by omega
      rw [this]; exact Nat.dvd_zero _
theorem two_of_not {N : Nat} (hN : 2 ≤ N) (h : ¬ Pr N) : ∃ m k, N = m * k ∧ 2 ≤ m ∧ 2 ≤ k := by
  refine Classical.byContradiction fun hc => h ⟨hN, fun m hm => ?_⟩
  obtain ⟨k, rfl⟩ := hm
  by_cases h1 : m = 1
  · exact .inl h1
  · by_cases h2 : k = 1
    · right; rw [h2, Nat.mul_one]
    · exfalso
      apply hc
      refine ⟨m, k, rfl, ?_, ?_⟩
      · rcases Nat.eq_zero_or_pos m with h | h
        · subst h; simp at hN
        · omega
      · rcases Nat.eq_zero_or_pos k with h | h
        · subst h; simp at hN
        · omega
theorem pock2 {N F : Nat} (hN : 2 ≤ N) (hF : ∀ r, Pr r → r ∣ N → F ∣ r - 1) (h : N < (F + 1) * (F + 1)) : Pr N := by
  refine Classical.byContradiction fun hc => ?_
  obtain ⟨m, k, rfl, h1, h2⟩ := two_of_not hN hc
  have d1 := Nat.le_of_dvd (by omega) (all_one hF m (Nat.dvd_mul_right _ _))
  have d2 := Nat.le_of_dvd (by omega) (all_one hF k (Nat.dvd_mul_left _ _))
  exact absurd (Nat.mul_le_mul (show F + 1 ≤ m by omega) (show F + 1 ≤ k by omega)) (by omega)
/-- A third of the digits suffices. -/
theorem pock3 {N F c1 c2 s : Nat} (hN : 2 ≤ N) (hF : ∀ r, Pr r → r ∣ N → F ∣ r - 1) (h3 : N ≤ F * F * F) (hd : N = (c2 * F + c1) * F + 1) (hc : 0 < c1) (hcF : c1 < F) (hs : c1 * c1 < 4 * c2 ∨ (s * s + 4 * c2 < c1 * c1 ∧ c1 * c1 < (s + 1) * (s + 1) + 4 * c2)) : Pr N := by
  refine Classical.byContradiction fun hcn => ?_
  obtain ⟨m, k, hmk, h1, h2⟩ := two_of_not hN hcn
  obtain ⟨a, ha⟩ := all_one hF m (by rw [hmk]; exact Nat.dvd_mul_right _ _)
  obtain ⟨b, hb⟩ := all_one hF k (by rw [hmk]; exact Nat.dvd_mul_left _ _)
  have em : m = F * a + 1 := by omega
  have ek : k = F * b + 1 := by omega
  have a0 : 0 < a := by rcases Nat.eq_zero_or_pos a with h | h; (subst h; simp at em; omega); exact h
  have b0 : 0 < b := by rcases Nat.eq_zero_or_pos b with h | h; (subst h; simp at ek; omega); exact h
  have F0 : 0 < F := by omega
  have eN : N = (a * b * F + (a + b)) * F + 1 := by
    rw [hmk, em, ek]
    simp only [Nat.mul_add, Nat.add_mul, Nat.mul_one, Nat.one_mul]
    have : F * a * (F * b) = a * b * F * F := by simp only [Nat.mul_comm, Nat.mul_left_comm]
    rw [this, Nat.mul_comm a F, Nat.mul_comm b F]
    omega
  have e1 : c2 * F + c1 = a * b * F + (a + b) := by
    have : (c2 * F + c1) * F = (a * b * F + (a + b)) * F := by omega
    exact Nat.eq_of_mul_eq_mul_right F0 this
  have hab : a * b < F := by
    rcases Nat.lt_or_ge (a * b) F with h | h
    · exact h
    · have q1 : F * F * F ≤ a * b * F * F := by
        rw [Nat.mul_assoc (a * b), Nat.mul_assoc F]
        exact Nat.mul_le_mul_right _ h
      have q2 : (a * b * F + (a + b)) * F = a * b * F * F + (a + b) * F := Nat.add_mul _ _ _
      have q3 : 0 < (a + b) * F := Nat.mul_pos (by omega) F0
      omega
  have hle : a + b ≤ a * b + 1 := by
    obtain ⟨a', rfl⟩ : ∃ x, a = x + 1 := ⟨a - 1, by omega⟩
    obtain ⟨b', rfl⟩ : ∃ x, b = x + 1 := ⟨b - 1, by omega⟩
    have : (a' + 1) * (b' + 1) = a' * b' + a' + b' + 1 := by rw [Nat.add_mul, Nat.mul_add]; omega
    have := Nat.zero_le (a' * b')
    omega
  have hlt : a + b < F := by
    rcases Nat.lt_or_ge (a + b) F with h | h
    · exact h
    · exfalso
      have hE : a + b = F := by omega
      rw [hE] at e1
      have : (c2 * F + c1) % F = (a * b * F + F) % F := by rw [e1]
      rw [Nat.mul_comm c2, Nat.mul_add_mod, Nat.add_mod_right, Nat.mul_comm (a * b), Nat.mul_mod_right, Nat.mod_eq_of_lt hcF] at this
      omega
  have r1 : c1 = a + b := by
    have : (c2 * F + c1) % F = (a * b * F + (a + b)) % F := by rw [e1]
    rw [Nat.mul_comm c2, Nat.mul_comm (a * b), Nat.mul_add_mod, Nat.mul_add_mod, Nat.mod_eq_of_lt hcF, Nat.mod_eq_of_lt hlt] at this
    exact this
  have r2 : c2 = a * b := by
    rw [r1] at e1
    exact Nat.eq_of_mul_eq_mul_right F0 (by omega)
  rw [r1, r2] at hs
  have sq : ∀ x y : Nat, x ≤ y → (x + y) * (x + y) = (y - x) * (y - x) + 4 * (x * y) := by
    intro x y h
    obtain ⟨d, rfl⟩ : ∃ d, y = x + d := ⟨y - x, by omega⟩
    have : x + d - x = d := by omega
    rw [this]
    simp only [Nat.mul_add, Nat.add_mul, Nat.mul_comm d x]
    omega
  obtain ⟨d, hdd⟩ : ∃ d, (a + b) * (a + b) = d * d + 4 * (a * b) := by
    rcases Nat.le_total a b with h | h
    · exact ⟨_, sq a b h⟩
    · exact ⟨a - b, by rw [Nat.add_comm a b, Nat.mul_comm a b]; exact sq b a h⟩
  rw [hdd] at hs
  rcases hs with h | ⟨h, g⟩
  · omega
  · have u1 : s * s < d * d := by omega
    have u2 : d * d < (s + 1) * (s + 1) := by omega
    have v1 : s < d := by
      rcases Nat.lt_or_ge s d with h | h
      · exact h
      · exact absurd (Nat.mul_le_mul h h) (by omega)
    have v2 : d < s + 1 := by
      rcases Nat.lt_or_ge d (s + 1) with h | h
      · exact h
      · exact absurd (Nat.mul_le_mul h h) (by omega)
    omega
end Go.Proofs.YtmfdhfdcokkclaaGreatDoor.Pm
/-
  Primes: powers modulo a number, trial division, a witness (pure).
-/
namespace Go.Proofs.YtmfdhfdcokkclaaGreatDoor.Pm
def sqm (N x : Nat) : Nat := x * x % N
/-- a ^ k modulo N, k below 2 ^ f. -/
def pw (N a : Nat) : Nat → Nat → Nat
  | 0, _ => 1 % N
  | f + 1, k => if k % 2 = 0 then sqm N (pw N a f (k / 2)) else sqm N (pw N a f (k / 2)) * a % N
theorem pw_eq (N a f k : Nat) (h : k < 2 ^ f) : pw N a f k = a ^ k % N := by
  induction f generalizing k with
  | zero => have : k = 0 := by simpa using h
            subst this; simp [pw]
  | succ f ih =>
    have e := ih (k / 2) (by rw [Nat.pow_succ] at h; omega)
    unfold pw
    rw [e]
    unfold sqm
    split
    · rename_i h0
      have : k = k / 2 + k / 2 := by omega
      rw [← Nat.mul_mod, ← Nat.pow_add, ← this]
    · rename_i h0
      have : k = k / 2 + k / 2 + 1 := by omega
      rw [← Nat.mul_mod, Nat.mod_mul_mod, ← Nat.pow_add, ← Nat.pow_succ]
      show a ^ (k / 2 + k / 2 + 1) % N = _
      rw [← this]
/-- No divisor from d on, j of them tried. -/
def td (n : Nat) : Nat → Nat → Bool
  | 0, d => decide (n < d * d)
  | j + 1, d => if n < d * d then true else if n % d = 0 then false else td n j (d + 1)
theorem td_ok (n j d : Nat) (h : td n j d = true) (hd : ∀ m, 2 ≤ m → m < d → ¬ m ∣ n) : ∀ m, 2 ≤ m → m * m ≤ n → ¬ m ∣ n := by
  induction j generalizing d with
  | zero =>
    have h : n < d * d := by simpa [td] using h
    intro m h2 hm
    refine hd m h2 ?_
    rcases Nat.lt_or_ge m d with g | g
    · exact g
    · exact absurd (Nat.mul_le_mul g g) (by omega)
  | succ j ih =>
    unfold td at h
    split at h
    · rename_i h
      intro m h2 hm
      refine hd m h2 ?_
      rcases Nat.lt_or_ge m d with g | g
      · exact g
      · exact absurd (Nat.mul_le_mul g g) (by omega)
    · split at h
      · cases h
      · rename_i h0
        refine ih (d + 1) h fun m h2 hm => ?_
        by_cases e : m = d
        · subst e; intro hh; exact h0 (Nat.mod_eq_zero_of_dvd hh)
        · exact hd m h2 (by omega)
theorem pr_td (n j : Nat) (h2 : 2 ≤ n) (h : td n j 2 = true) : Pr n := by
  refine Classical.byContradiction fun hc => ?_
  obtain ⟨m, k, rfl, h1, h2⟩ := two_of_not h2 hc
  have := td_ok _ _ _ h (fun m a b => by omega)
  rcases Nat.le_total m k with g | g
  · exact this m h1 (Nat.mul_le_mul_left m g) (Nat.dvd_mul_right _ _)
  · exact this k h2 (Nat.mul_le_mul_right k g) (Nat.dvd_mul_left _ _)
def wg (N a f q : Nat) : Bool := Nat.gcd (pw N a f ((N - 1) / q) + (N - 1)) N == 1
theorem wg_gcd (N x : Nat) (hN : 2 ≤ N) (hx : 1 ≤ x) (h : Nat.gcd (x % N + (N - 1)) N = 1) : Nat.gcd (x - 1) N = 1 := by
  have e : x % N + (N - 1) + N * (x / N) = x - 1 + N := by have := Nat.mod_add_div x N; omega
  have h1 : Nat.gcd (x % N + (N - 1) + N * (x / N)) N = Nat.gcd (x % N + (N - 1)) N := by rw [Nat.mul_comm N, Nat.gcd_add_mul_right_left]
  have h2 : Nat.gcd (x - 1 + N) N = Nat.gcd (x - 1) N := by simp
  rw [← h2, ← e, h1, h]
theorem pock1' {N r a q e f : Nat} (hf : N < 2 ^ f) (ha : 1 ≤ a) (hr : Pr r) (hrN : r ∣ N) (hN : 2 ≤ N) (hq : Pr q) (he : (N - 1) % q ^ e = 0) (h1 : pw N a f (N - 1) = 1) (h2 : wg N a f q = true) : q ^ e ∣ r - 1 := by
  refine pock1 (a := a) hr hrN hN hq (Nat.dvd_of_mod_eq_zero he) ?_ ?_
  · rw [← pw_eq N a f (N - 1) (by omega), h1, Nat.mod_eq_of_lt (by omega)]
  · unfold wg at h2
    rw [pw_eq N a f _ (Nat.lt_of_le_of_lt (Nat.div_le_self _ _) (by omega))] at h2
    exact wg_gcd N _ hN (Nat.pow_pos ha) (by simpa using h2)
end Go.Proofs.YtmfdhfdcokkclaaGreatDoor.Pm
