/-
  Rsa: a digest laid with the identifier of its algorithm.
-/
import Derived.Deep.QuietTactic
import Derived.BigQuiet
import Derived.Deep.CutRange
import Derived.Test.YtjmiaakfdclfjaaGreatDoorK15
namespace Go.Proofs.YtjmiaakfdclfjaaGreatDoor
open Go.RowKit
set_option maxRecDepth 20000
theorem Blk.sls {T : TypeId} {w : World} {b : Nat} {vs : List Value} (h : Blk T w b vs) : SlS w (.slice (some ⟨b, 0, none⟩) vs.length vs.length) vs :=
  ⟨_, _, rfl, Nat.le_refl _, .inr ⟨b, 0, rfl, h.lt, fun i hi => by rw [h.cell]; simp [hi]⟩⟩
theorem lists1 {w : World} {T : TypeId} {v : Value} {m : List Int} (h : Sl .u8 w v m) (u : U8s m) : Lists (w.alloc (.cells #[v] T)) (some ⟨w.heap.size, 0, none⟩) 1 1 [v] [m] :=
  ⟨(Blk.new T w [v]).sls, ⟨rfl, fun i hi => by
    obtain rfl : i = 0 := by simp at hi; omega
    exact ⟨below_sl (al1 _) h, u⟩⟩, rfl⟩
theorem lists2 {w : World} {T : TypeId} {v v' : Value} {m m' : List Int} (h : Sl .u8 w v m) (u : U8s m) (h' : Sl .u8 w v' m') (u' : U8s m') : Lists (w.alloc (.cells #[v, v'] T)) (some ⟨w.heap.size, 0, none⟩) 2 2 [v, v'] [m, m'] :=
  ⟨(Blk.new T w [v, v']).sls, ⟨rfl, fun i hi => by
    have : i = 0 ∨ i = 1 := by simp at hi; omega
    rcases this with rfl | rfl
    · exact ⟨below_sl (al1 _) h, u⟩
    · exact ⟨below_sl (al1 _) h', u'⟩⟩, rfl⟩
theorem lists0 (w : World) : Lists w none 0 0 [] [] := ⟨⟨none, 0, rfl, Nat.le_refl _, .inl rfl⟩, ⟨rfl, fun i hi => by simp at hi⟩, rfl⟩
/-- An element of the universal class, of fewer than 128 bytes. -/
def elB (tag : Nat) (d : List Int) : List Int := ((if tag = 16 then 32 else 0) + tag : Int) :: (d.length : Int) :: d
theorem elB_len (tag : Nat) (d : List Int) : (elB tag d).length = d.length + 2 := by simp [elB]
theorem elB_u8 {tag : Nat} {d : List Int} (ht : tag < 31) (hd : U8s d) (hl : d.length < 128) : U8s (elB tag d) := by
  intro x hx
  simp only [elB, List.mem_cons] at hx
  rcases hx with rfl | rfl | hx
  · unfold U8; split <;> omega
  · unfold U8; omega
  · exact hd x hx
set_option maxHeartbeats 1000000 in
theorem put_any {w : World} (tag : Nat) (ht1 : 1 ≤ tag) (ht : tag < 31) (a : Option Addr) (n cp : Nat) (vs : List Value) (ms : List (List Int)) (hL : Lists w a n cp vs ms) (hn : n ≤ 1000) (h128 : ms.flatten.length < 128) :
    Calls Tryz.prog 64 #[.int .i64 tag, .slice a n cp] w fun e w' => ∃ r, e = .returned r ∧ Row .u8 5 w.heap.size w' r (elB tag ms.flatten) ∧ Below w.heap.size w w' := by
  obtain ⟨N, hN⟩ : ∃ N, ms.flatten.length = N := ⟨_, rfl⟩
  have hl : ∃ l : Nat, N / 256 ^ l = 0 ∧ (∀ j, j < l → 0 < N / 256 ^ j) ∧ l ≤ 7 := by
    by_cases h0 : N = 0
    · exact ⟨0, by simp [h0], by omega, by omega⟩
    · refine ⟨1, by omega, fun j hj => ?_, by omega⟩
      obtain rfl : j = 0 := by omega
      simp; omega
  obtain ⟨l, hl0, hl1, hl7⟩ := hl
  have hE : ∀ co : Bool, co = decide (tag = 16) → headB 0 co tag 0 ++ lenB N l ++ ms.flatten = elB tag ms.flatten := fun co hc => by
    unfold headB lenB elB frst
    have h1 : N < 128 := by omega
    rw [hc, hN]
    by_cases h : tag = 16
    · simp [h, h1]
    · simp [h, h1, ht]
  by_cases h16 : tag = 16
  · subst h16
    have HP : Hid (∀ w', w' = w → Calls Tryz.prog _ _ w' _) := fun w' hw => by rw [hw]; exact Put_any 0 16 0 l true a n cp N vs ms hL hN (by omega) (by omega) (by decide) (by decide) (by omega) (by omega) hl0 hl1 hl7
    have HE : Hid (headB 0 true 16 0 ++ lenB N l ++ ms.flatten = elB 16 ms.flatten) := hE true (by decide)
    clear hL hE hl0 hl1 hl7 hN
    go_enter Tryz.func64, Tryz.ntmps64
    go_wp2_with (go_at_call 89; refine (HP.out _ rfl).mono ?_; rintro e w2 ⟨r, rfl, hr, hb⟩; have HR : Hid (Row .u8 5 w.heap.size w2 r (elB 16 ms.flatten) ∧ Below w.heap.size w w2) := ⟨by rw [← HE.out]; exact hr, hb⟩; clear hr hb)
    go_ret
    exact ⟨r, rfl, HR.out⟩
  · have hI : ((tag : Int) == 16) = false := by simp; omega
    have HP : Hid (∀ w', w' = w → Calls Tryz.prog _ _ w' _) := fun w' hw => by rw [hw]; exact Put_any 0 tag 0 l false a n cp N vs ms hL hN (by omega) (by omega) (by unfold headOk; simp; omega) (by simp; omega) (by omega) (by omega) hl0 hl1 hl7
    have HE : Hid (headB 0 false tag 0 ++ lenB N l ++ ms.flatten = elB tag ms.flatten) := hE false (by simp [h16])
    clear hL hE hl0 hl1 hl7 hN
    go_enter Tryz.func64, Tryz.ntmps64
    go_wp2_with (go_at_call 89; refine (HP.out _ rfl).mono ?_; rintro e w2 ⟨r, rfl, hr, hb⟩; have HR : Hid (Row .u8 5 w.heap.size w2 r (elB tag ms.flatten) ∧ Below w.heap.size w w2) := ⟨by rw [← HE.out]; exact hr, hb⟩; clear hr hb)
    go_ret
    exact ⟨r, rfl, HR.out⟩
def Alg4 (alg : Int) : Prop := alg = 1 ∨ alg = 2 ∨ alg = 3 ∨ alg = 4
/-- The identifiers' texts and bytes. -/
def oidY (alg : Int) : List Int :=
  if alg = 1 then [49, 46, 51, 46, 49, 52, 46, 51, 46, 50, 46, 50, 54]
  else [50, 46, 49, 54, 46, 56, 52, 48, 46, 49, 46, 49, 48, 49, 46, 51, 46, 52, 46, 50, 46, 47 + alg]
def oidB (alg : Int) : List Int := if alg = 1 then [43, 14, 3, 2, 26] else [96, 134, 72, 1, 101, 3, 4, 2, alg - 1]
theorem oidR {alg : Int} (ha : Alg4 alg) : PutR (oidY alg) (oidB alg) 0 := by
  rcases ha with rfl | rfl | rfl | rfl
  · exact .inr (.inr ⟨[1, 3, 14, 3, 2, 26], by decide +kernel, by decide +kernel, by decide +kernel, by decide +kernel, rfl⟩)
  · exact .inr (.inr ⟨[2, 16, 840, 1, 101, 3, 4, 2, 1], by decide +kernel, by decide +kernel, by decide +kernel, by decide +kernel, rfl⟩)
  · exact .inr (.inr ⟨[2, 16, 840, 1, 101, 3, 4, 2, 2], by decide +kernel, by decide +kernel, by decide +kernel, by decide +kernel, rfl⟩)
  · exact .inr (.inr ⟨[2, 16, 840, 1, 101, 3, 4, 2, 3], by decide +kernel, by decide +kernel, by decide +kernel, by decide +kernel, rfl⟩)
theorem oidY_u8 {alg : Int} (ha : Alg4 alg) : U8s (oidY alg) ∧ (oidY alg).length ≤ 2000 := by
  rcases ha with rfl | rfl | rfl | rfl <;> exact ⟨by intro x hx; unfold U8; simp [oidY] at hx; omega, by decide⟩
theorem oidB_u8 {alg : Int} (ha : Alg4 alg) : U8s (oidB alg) ∧ (oidB alg).length ≤ 9 := by
  rcases ha with rfl | rfl | rfl | rfl <;> exact ⟨by intro x hx; unfold U8; simp [oidB] at hx; omega, by decide⟩
theorem oid_any {w : World} (alg : Int) (ha : Alg4 alg) : Calls Tryz.prog 63 #[.int .i64 alg] w fun e w' => e = .returned (.string (strOfNums (oidY alg))) ∧ w' = w := by
  rcases ha with rfl | rfl | rfl | rfl
  all_goals (go_enter Tryz.func63, Tryz.ntmps63; go_wp2; go_ret; exact ⟨congrArg (fun s => Ending.returned (Value.string s)) (by decide +kernel), rfl⟩)
/-- A digest with its algorithm's identifier. -/
def namB (alg : Int) (X : List Int) : List Int := elB 16 (elB 16 (elB 6 (oidB alg) ++ elB 5 []) ++ elB 4 X)
theorem namB_len (alg : Int) (X : List Int) : (namB alg X).length = (oidB alg).length + X.length + 10 := by
  simp [namB, elB_len]; omega
end Go.Proofs.YtjmiaakfdclfjaaGreatDoor
/-
  Rsa: a digest named; bytes repeated; Pad.
-/
namespace Go.Proofs.YtjmiaakfdclfjaaGreatDoor
open Go.RowKit
set_option maxRecDepth 20000
theorem Sl.form {k : IntKind} {w : World} {v : Value} {xs : List Int} (h : Sl k w v xs) : ∃ a c, v = .slice a xs.length c := by
  obtain ⟨a, c, rfl, _⟩ := h; exact ⟨a, c, rfl⟩
set_option maxHeartbeats 2000000 in
theorem named_any {w : World} (alg : Int) (ha : Alg4 alg) (v : Value) (X : List Int) (hX : Sl .u8 w v X) (uX : U8s X) (hl : X.length ≤ 64) :
    Calls Tryz.prog 34 #[.int .i64 alg, v] w fun e w' => ∃ r, e = .returned r ∧ Row .u8 5 w.heap.size w' r (namB alg X) ∧ Below w.heap.size w w' := by
  obtain ⟨va, vc, rfl⟩ := hX.form
  have HX : Hid (Sl .u8 w (.slice va X.length vc) X ∧ U8s X ∧ U8s (oidB alg) ∧ (oidB alg).length ≤ 9) := ⟨hX, uX, (oidB_u8 ha).1, (oidB_u8 ha).2⟩
  have HLl : Hid (X.length ≤ 64) := hl
  clear hX uX hl
  go_enter Tryz.func34, Tryz.ntmps34
  go_wp2_with fail
  refine (oid_any alg ha).mono ?_
  rintro e w0 ⟨rfl, rfl⟩
  go_wp2_with fail
  refine (PutOid_any (oidY alg) (oidY_u8 ha).1 (oidY_u8 ha).2).mono ?_
  rintro e w1 ⟨⟨r1, b1, er1, hp, rfl, hs1⟩, hb1⟩
  obtain ⟨rfl, rfl⟩ := hp.uniq (oidR ha)
  obtain ⟨a1, c1, rfl⟩ := hs1.form
  have H1 : Hid (Sl .u8 w1 (.slice a1 (oidB alg).length c1) (oidB alg) ∧ Below w0.heap.size w0 w1) := ⟨hs1, hb1⟩
  clear hs1 hb1 hp
  go_wp2_with fail
  refine (put_any 6 (by decide) (by decide) _ 1 1 _ [oidB alg] (lists1 H1.out.1 HX.out.2.2.1) (by decide) (by have := HX.out.2.2.2; simp; omega)).mono ?_
  rintro e w2 ⟨r2, rfl, hr2, hb2⟩
  have H2 : Hid (Sl .u8 w2 r2 (elB 6 (oidB alg)) ∧ Below w0.heap.size w0 w2) := ⟨by have := hr2.sl; simpa using this, below_via H1.out.2 (below_via (al1 _) hb2 (Nat.le_refl _)) (Nat.le_refl _)⟩
  obtain ⟨a2, c2, hf2⟩ := H2.out.1.form
  subst hf2
  clear hr2 hb2
  go_wp2_with fail
  refine (put_any 5 (by decide) (by decide) none 0 0 [] [] (lists0 _) (by decide) (by simp)).mono ?_
  rintro e w3 ⟨r3, rfl, hr3, hb3⟩
  have H3 : Hid (Sl .u8 w3 (.slice a2 (elB 6 (oidB alg)).length c2) (elB 6 (oidB alg)) ∧ Sl .u8 w3 r3 (elB 5 []) ∧ Below w0.heap.size w0 w3) := ⟨below_sl hb3 H2.out.1, by have := hr3.sl; simpa using this, below_via H2.out.2 hb3 (Nat.le_refl _)⟩
  obtain ⟨a3, c3, hf3⟩ := H3.out.2.1.form
  subst hf3
  clear hr3 hb3
  go_wp2_with fail
  refine (put_any 16 (by decide) (by decide) _ 2 2 _ [elB 6 (oidB alg), elB 5 []] (lists2 H3.out.1 (elB_u8 (by decide) HX.out.2.2.1 (by have := HX.out.2.2.2; omega)) H3.out.2.1 (elB_u8 (by decide) nil_u8 (by decide))) (by decide) (by have := HX.out.2.2.2; simp [elB_len]; omega)).mono ?_
  rintro e w4 ⟨r4, rfl, hr4, hb4⟩
  have H4 : Hid (Sl .u8 w4 r4 (elB 16 (elB 6 (oidB alg) ++ elB 5 [])) ∧ Below w0.heap.size w0 w4) := ⟨by have := hr4.sl; simpa using this, below_via H3.out.2.2 (below_via (al1 _) hb4 (Nat.le_refl _)) (Nat.le_refl _)⟩
  obtain ⟨a4, c4, hf4⟩ := H4.out.1.form
  subst hf4
  clear hr4 hb4
  go_wp2_with fail
  refine (put_any 4 (by decide) (by decide) _ 1 1 _ [X] (lists1 (below_sl H4.out.2 HX.out.1) HX.out.2.1) (by decide) (by have := HLl.out; simp; omega)).mono ?_
  rintro e w5 ⟨r5, rfl, hr5, hb5⟩
  have hB5 : Below w4.heap.size w4 w5 := below_via (al1 _) hb5 (Nat.le_refl _)
  have H5 : Hid (Sl .u8 w5 (.slice a4 (elB 16 (elB 6 (oidB alg) ++ elB 5 [])).length c4) (elB 16 (elB 6 (oidB alg) ++ elB 5 [])) ∧ Sl .u8 w5 r5 (elB 4 X) ∧ Below w0.heap.size w0 w5) := ⟨below_sl hB5 H4.out.1, by have := hr5.sl; simpa using this, below_via H4.out.2 hB5 (Nat.le_refl _)⟩
  obtain ⟨a5, c5, hf5⟩ := H5.out.2.1.form
  subst hf5
  clear hr5 hb5 hB5
  go_wp2_with fail
  refine (put_any 16 (by decide) (by decide) _ 2 2 _ [elB 16 (elB 6 (oidB alg) ++ elB 5 []), elB 4 X] (lists2 H5.out.1 (elB_u8 (by decide) ((elB_u8 (by decide) HX.out.2.2.1 (by have := HX.out.2.2.2; omega)).append (elB_u8 (by decide) nil_u8 (by decide))) (by have := HX.out.2.2.2; simp [elB_len]; omega)) H5.out.2.1 (elB_u8 (by decide) HX.out.2.1 (by have := HLl.out; omega))) (by decide) (by have := HX.out.2.2.2; have := HLl.out; simp [elB_len]; omega)).mono ?_
  rintro e w6 ⟨r6, rfl, hr6, hb6⟩
  have hB6 : Below w5.heap.size w5 w6 := below_via (al1 _) hb6 (Nat.le_refl _)
  have H6 : Hid (Row .u8 5 w0.heap.size w6 r6 (namB alg X) ∧ Below w0.heap.size w0 w6) := ⟨by
    have h := hr6.mono (B' := w0.heap.size) (by have := H5.out.2.2.size; simp; omega)
    unfold namB; simpa using h, below_via H5.out.2.2 hB6 (Nat.le_refl _)⟩
  clear hr6 hb6 hB6
  go_wp2_with fail
  go_ret
  exact ⟨r6, rfl, H6.out⟩
end Go.Proofs.YtjmiaakfdclfjaaGreatDoor
/-
  Digest: the walks of RotateLeft32, RotateLeft64, turns32, moved32, turns64, moved64, choose1, Size, Block.
-/
namespace Go.Proofs.YtjmiaakfdclfjaaGreatDoor.Sh
open Go.RowKit
set_option maxRecDepth 20000

/-- x turned left by s bits. -/
def rot32 (x : Int) (s : Nat) : Int := bits .or .u32 (IntKind.u32.wrap (x * 2 ^ s)) (x / 2 ^ (32 - s))
def rot64 (x : Int) (s : Nat) : Int := bits .or .u64 (IntKind.u64.wrap (x * 2 ^ s)) (x / 2 ^ (64 - s))

set_option maxHeartbeats 1000000 in
theorem RotateLeft32_any {w : World} (x k : Int) (hx : U32 x) (s : Nat) (hs : bits .and .u64 (IntKind.u64.wrap k) 31 = s) (hs1 : s ≤ 31) :
    Calls Tryz.prog 109 #[.int .u32 x, .int .i64 k] w fun e w' => e = .returned (.int .u32 (rot32 x s)) ∧ w = w' := by
  obtain ⟨h1, h2⟩ := hx
  have e1 : (32 : Int) - (s : Int) = ((32 - s : Nat) : Int) := by omega
  obtain ⟨t, ht⟩ : ∃ t, 32 - s = t := ⟨_, rfl⟩
  rw [ht] at e1
  have HR : Hid (rot32 x s = bits .or .u32 (IntKind.u32.wrap (x * 2 ^ s)) (x / 2 ^ t)) := by unfold rot32; rw [ht]; rfl
  have ht1 : t ≤ 32 := by omega
  clear ht
  go_enter Tryz.func109, Tryz.ntmps109
  go_wp2
  go_ret
  exact ⟨by rw [HR.out]; rfl, rfl⟩

theorem neg_and32 (i : Nat) (h : 1 ≤ i) (h' : i ≤ 31) : bits .and .u64 (IntKind.u64.wrap (-(i : Int))) 31 = (32 - i : Nat) := by
  have e : IntKind.u64.wrap (-(i : Int)) = 18446744073709551616 - (i : Int) := by rw [IntKind.wrap_u64]; omega
  have h2 : bits .and .u64 (18446744073709551616 - (i : Int)) 31 = (18446744073709551616 - (i : Int)) % 32 := by
    obtain ⟨z, hz⟩ : ∃ z, 18446744073709551616 - (i : Int) = z := ⟨_, rfl⟩
    have h0 : 0 ≤ z := by omega
    have h1 : z < 18446744073709551616 := by omega
    rw [hz]; go_bits2
  rw [e, h2]; omega
def trn32 (x : Int) (i j k : Nat) : Int := bits .xor .u32 (bits .xor .u32 (rot32 x (32 - i)) (rot32 x (32 - j))) (rot32 x (32 - k))
def mvd32 (x : Int) (i j k : Nat) : Int := bits .xor .u32 (bits .xor .u32 (rot32 x (32 - i)) (rot32 x (32 - j))) (x / 2 ^ k)
set_option maxHeartbeats 1000000 in
theorem turns32_any {w : World} (x : Int) (hx : U32 x) (i j k : Nat) (hi : 1 ≤ i ∧ i ≤ 31) (hj : 1 ≤ j ∧ j ≤ 31) (hk : 1 ≤ k ∧ k ≤ 31) :
    Calls Tryz.prog 112 #[.int .u32 x, .int .i64 i, .int .i64 j, .int .i64 k] w fun e w' => e = .returned (.int .u32 (trn32 x i j k)) ∧ w = w' := by
  have r1 := RotateLeft32_any (w := w) x (-(i : Int)) hx (32 - i) (neg_and32 i hi.1 hi.2) (by omega)
  have r2 := RotateLeft32_any (w := w) x (-(j : Int)) hx (32 - j) (neg_and32 j hj.1 hj.2) (by omega)
  have r3 := RotateLeft32_any (w := w) x (-(k : Int)) hx (32 - k) (neg_and32 k hk.1 hk.2) (by omega)
  obtain ⟨a, ha⟩ : ∃ a, rot32 x (32 - i) = a := ⟨_, rfl⟩
  obtain ⟨b, hb⟩ : ∃ b, rot32 x (32 - j) = b := ⟨_, rfl⟩
  obtain ⟨c, hc⟩ : ∃ c, rot32 x (32 - k) = c := ⟨_, rfl⟩
  have HT : Hid (trn32 x i j k = bits .xor .u32 (bits .xor .u32 a b) c) := by unfold trn32; rw [ha, hb, hc]; rfl
  rw [ha] at r1; rw [hb] at r2; rw [hc] at r3
  clear ha hb hc hx
  go_enter Tryz.func112, Tryz.ntmps112
  go_wp2_with (first
    | (go_at_call 109; replace g1 := g1; replace g2 := g2; refine r3.mono ?_; rintro e w' ⟨rfl, rfl⟩)
    | (go_at_call 109; replace g1 := g1; refine r2.mono ?_; rintro e w' ⟨rfl, rfl⟩; have g2 := trivial)
    | (go_at_call 109; refine r1.mono ?_; rintro e w' ⟨rfl, rfl⟩; have g1 := trivial))
  go_ret
  exact ⟨by rw [HT.out]; rfl, rfl⟩
def sh32 (k : Int) : Nat := (bits .and .u64 (IntKind.u64.wrap k) 31).toNat
theorem sh32_neg (i : Nat) (h : 1 ≤ i) (h' : i ≤ 31) : sh32 (-(i : Int)) = 32 - i := by unfold sh32; rw [neg_and32 i h h']; exact Int.toNat_natCast _
theorem and31 (z : Int) (h0 : 0 ≤ z) (h1 : z < 18446744073709551616) : bits .and .u64 z 31 = z % 32 := by go_bits2
theorem rot32_any {w : World} (x k : Int) (hx : U32 x) :
    Calls Tryz.prog 109 #[.int .u32 x, .int .i64 k] w fun e w' => e = .returned (.int .u32 (rot32 x (sh32 k))) ∧ w' = w := by
  have h := and31 (IntKind.u64.wrap k) (by rw [IntKind.wrap_u64]; omega) (by rw [IntKind.wrap_u64]; omega)
  refine (RotateLeft32_any x k hx (sh32 k) (by unfold sh32; rw [h]; omega) (by unfold sh32; rw [h]; omega)).mono fun _ _ h => ⟨h.1, h.2.symm⟩
set_option maxHeartbeats 1000000 in
theorem moved32_any {w : World} (x : Int) (hx : U32 x) (i j k : Nat) (hi : 1 ≤ i ∧ i ≤ 31) (hj : 1 ≤ j ∧ j ≤ 31) (hk : k ≤ 31) :
    Calls Tryz.prog 119 #[.int .u32 x, .int .i64 i, .int .i64 j, .int .i64 k] w fun e w' => e = .returned (.int .u32 (mvd32 x i j k)) ∧ ∃ q, w' = w.drewN q := by
  have HX : Hid (U32 x) := hx
  have HT : Hid (mvd32 x i j k = bits .xor .u32 (bits .xor .u32 (rot32 x (sh32 (-(i : Int)))) (rot32 x (sh32 (-(j : Int))))) (x / 2 ^ k)) := by
    unfold mvd32; rw [sh32_neg i hi.1 hi.2, sh32_neg j hj.1 hj.2]; rfl
  have hk0 : (0 : Int) ≤ (k : Int) := by omega
  clear hx
  go_enter Tryz.func119, Tryz.ntmps119
  go_upto_region 1 with (fail)
  go_quiet ((go_at_call 109; exact Calls.quiet_of_same (rot32_any _ _ HX.out)))
  go_wp2
  go_ret
  exact ⟨by rw [HT.out]; rfl, _, rfl⟩

set_option maxHeartbeats 1000000 in
theorem RotateLeft64_any {w : World} (x k : Int) (hx : 0 ≤ x ∧ x < 18446744073709551616) (s : Nat) (hs : bits .and .u64 (IntKind.u64.wrap k) 63 = s) (hs1 : s ≤ 63) :
    Calls Tryz.prog 121 #[.int .u64 x, .int .i64 k] w fun e w' => e = .returned (.int .u64 (rot64 x s)) ∧ w = w' := by
  obtain ⟨h1, h2⟩ := hx
  have e1 : (64 : Int) - (s : Int) = ((64 - s : Nat) : Int) := by omega
  obtain ⟨t, ht⟩ : ∃ t, 64 - s = t := ⟨_, rfl⟩
  rw [ht] at e1
  have HR : Hid (rot64 x s = bits .or .u64 (IntKind.u64.wrap (x * 2 ^ s)) (x / 2 ^ t)) := by unfold rot64; rw [ht]; rfl
  have ht1 : t ≤ 64 := by omega
  clear ht
  go_enter Tryz.func121, Tryz.ntmps121
  go_wp2
  go_ret
  exact ⟨by rw [HR.out]; rfl, rfl⟩

theorem neg_and64 (i : Nat) (h : 1 ≤ i) (h' : i ≤ 63) : bits .and .u64 (IntKind.u64.wrap (-(i : Int))) 63 = (64 - i : Nat) := by
  have e : IntKind.u64.wrap (-(i : Int)) = 18446744073709551616 - (i : Int) := by rw [IntKind.wrap_u64]; omega
  have h2 : bits .and .u64 (18446744073709551616 - (i : Int)) 63 = (18446744073709551616 - (i : Int)) % 64 := by
    obtain ⟨z, hz⟩ : ∃ z, 18446744073709551616 - (i : Int) = z := ⟨_, rfl⟩
    have h0 : 0 ≤ z := by omega
    have h1 : z < 18446744073709551616 := by omega
    rw [hz]; go_bits2
  rw [e, h2]; omega
def trn64 (x : Int) (i j k : Nat) : Int := bits .xor .u64 (bits .xor .u64 (rot64 x (64 - i)) (rot64 x (64 - j))) (rot64 x (64 - k))
def mvd64 (x : Int) (i j k : Nat) : Int := bits .xor .u64 (bits .xor .u64 (rot64 x (64 - i)) (rot64 x (64 - j))) (x / 2 ^ k)
set_option maxHeartbeats 1000000 in
theorem turns64_any {w : World} (x : Int) (hx : 0 ≤ x ∧ x < 18446744073709551616) (i j k : Nat) (hi : 1 ≤ i ∧ i ≤ 63) (hj : 1 ≤ j ∧ j ≤ 63) (hk : 1 ≤ k ∧ k ≤ 63) :
    Calls Tryz.prog 114 #[.int .u64 x, .int .i64 i, .int .i64 j, .int .i64 k] w fun e w' => e = .returned (.int .u64 (trn64 x i j k)) ∧ w = w' := by
  have r1 := RotateLeft64_any (w := w) x (-(i : Int)) hx (64 - i) (neg_and64 i hi.1 hi.2) (by omega)
  have r2 := RotateLeft64_any (w := w) x (-(j : Int)) hx (64 - j) (neg_and64 j hj.1 hj.2) (by omega)
  have r3 := RotateLeft64_any (w := w) x (-(k : Int)) hx (64 - k) (neg_and64 k hk.1 hk.2) (by omega)
  obtain ⟨a, ha⟩ : ∃ a, rot64 x (64 - i) = a := ⟨_, rfl⟩
  obtain ⟨b, hb⟩ : ∃ b, rot64 x (64 - j) = b := ⟨_, rfl⟩
  obtain ⟨c, hc⟩ : ∃ c, rot64 x (64 - k) = c := ⟨_, rfl⟩
  have HT : Hid (trn64 x i j k = bits .xor .u64 (bits .xor .u64 a b) c) := by unfold trn64; rw [ha, hb, hc]; rfl
  rw [ha] at r1; rw [hb] at r2; rw [hc] at r3
  clear ha hb hc hx
  go_enter Tryz.func114, Tryz.ntmps114
  go_wp2_with (first
    | (go_at_call 121; replace g1 := g1; replace g2 := g2; refine r3.mono ?_; rintro e w' ⟨rfl, rfl⟩)
    | (go_at_call 121; replace g1 := g1; refine r2.mono ?_; rintro e w' ⟨rfl, rfl⟩; have g2 := trivial)
    | (go_at_call 121; refine r1.mono ?_; rintro e w' ⟨rfl, rfl⟩; have g1 := trivial))
  go_ret
  exact ⟨by rw [HT.out]; rfl, rfl⟩
def sh64 (k : Int) : Nat := (bits .and .u64 (IntKind.u64.wrap k) 63).toNat
theorem sh64_neg (i : Nat) (h : 1 ≤ i) (h' : i ≤ 63) : sh64 (-(i : Int)) = 64 - i := by unfold sh64; rw [neg_and64 i h h']; exact Int.toNat_natCast _
theorem and63 (z : Int) (h0 : 0 ≤ z) (h1 : z < 18446744073709551616) : bits .and .u64 z 63 = z % 64 := by go_bits2
theorem rot64_any {w : World} (x k : Int) (hx : 0 ≤ x ∧ x < 18446744073709551616) :
    Calls Tryz.prog 121 #[.int .u64 x, .int .i64 k] w fun e w' => e = .returned (.int .u64 (rot64 x (sh64 k))) ∧ w' = w := by
  have h := and63 (IntKind.u64.wrap k) (by rw [IntKind.wrap_u64]; omega) (by rw [IntKind.wrap_u64]; omega)
  refine (RotateLeft64_any x k hx (sh64 k) (by unfold sh64; rw [h]; omega) (by unfold sh64; rw [h]; omega)).mono fun _ _ h => ⟨h.1, h.2.symm⟩
set_option maxHeartbeats 1000000 in
theorem moved64_any {w : World} (x : Int) (hx : 0 ≤ x ∧ x < 18446744073709551616) (i j k : Nat) (hi : 1 ≤ i ∧ i ≤ 63) (hj : 1 ≤ j ∧ j ≤ 63) (hk : k ≤ 63) :
    Calls Tryz.prog 120 #[.int .u64 x, .int .i64 i, .int .i64 j, .int .i64 k] w fun e w' => e = .returned (.int .u64 (mvd64 x i j k)) ∧ ∃ q, w' = w.drewN q := by
  have HX : Hid (0 ≤ x ∧ x < 18446744073709551616) := hx
  have HT : Hid (mvd64 x i j k = bits .xor .u64 (bits .xor .u64 (rot64 x (sh64 (-(i : Int)))) (rot64 x (sh64 (-(j : Int))))) (x / 2 ^ k)) := by
    unfold mvd64; rw [sh64_neg i hi.1 hi.2, sh64_neg j hj.1 hj.2]; rfl
  have hk0 : (0 : Int) ≤ (k : Int) := by omega
  clear hx
  go_enter Tryz.func120, Tryz.ntmps120
  go_upto_region 1 with (fail)
  go_quiet ((go_at_call 121; exact Calls.quiet_of_same (rot64_any _ _ HX.out)))
  go_wp2
  go_ret
  exact ⟨by rw [HT.out]; rfl, _, rfl⟩
end Go.Proofs.YtjmiaakfdclfjaaGreatDoor.Sh
/-
  Digest: the walk of word32: four bytes of a block, the highest first.
-/
namespace Go.Proofs.YtjmiaakfdclfjaaGreatDoor.Sh
open Go.RowKit
set_option maxRecDepth 20000

def U8 (x : Int) : Prop := 0 ≤ x ∧ x < 256
def U8s (xs : List Int) : Prop := ∀ x ∈ xs, U8 x
theorem U8s.at {xs : List Int} (h : U8s xs) (i : Nat) : U8 (xs.getD i 0) := by
  by_cases hi : i < xs.length
  · simp [hi]; exact h _ (List.getElem_mem hi)
  · simp [List.getD, List.getElem?_eq_none (Nat.le_of_not_lt hi), U8]
/-- The word t of a block. -/
def wd32 (bs : List Int) (t : Nat) : Int := bs.getD (4 * t) 0 * 16777216 + bs.getD (4 * t + 1) 0 * 65536 + bs.getD (4 * t + 2) 0 * 256 + bs.getD (4 * t + 3) 0
theorem wd32_u32 {bs : List Int} (h : U8s bs) (t : Nat) : U32 (wd32 bs t) := by
  have h0 := h.at (4 * t); have h1 := h.at (4 * t + 1); have h2 := h.at (4 * t + 2); have h3 := h.at (4 * t + 3)
  unfold U8 at h0 h1 h2 h3
  unfold wd32 U32; omega
theorem or_hi (s : Nat) (x y : Int) (hx0 : 0 ≤ x) (hx : x * 2 ^ s < 4294967296) (hy0 : 0 ≤ y) (hy : y < 2 ^ s) (hs : s ≤ 32) : bits .or .u32 (x * 2 ^ s) y = x * 2 ^ s + y := by
  obtain ⟨a, rfl⟩ := Int.eq_ofNat_of_zero_le hx0
  obtain ⟨b, rfl⟩ := Int.eq_ofNat_of_zero_le hy0
  have e : ((a * 2 ^ s : Nat) : Int) = (a : Int) * 2 ^ s := by simp
  have hb : b < 2 ^ s := by
    have : ((b : Nat) : Int) < ((2 ^ s : Nat) : Int) := by rw [Int.natCast_pow]; exact hy
    exact Int.ofNat_lt.1 this
  have ha : a * 2 ^ s < 2 ^ 32 := by
    have : ((a * 2 ^ s : Nat) : Int) < ((2 ^ 32 : Nat) : Int) := by rw [e]; exact hx
    exact Int.ofNat_lt.1 this
  have hb2 : b < 2 ^ 32 := Nat.lt_of_lt_of_le hb (Nat.pow_le_pow_right (by decide) hs)
  have h := (bits_nat .u32 32 (by decide) (fun n h₀ h₁ => by rw [IntKind.wrap_u32']; omega) (a * 2 ^ s) b ha hb2).2
  rw [e] at h
  rw [h, Nat.mul_comm a, ← Nat.two_pow_add_eq_or_of_lt hb a, Nat.mul_comm, Int.natCast_add, e]

set_option maxHeartbeats 1000000 in
theorem word32_any {w : World} (b off len c : Nat) (bs : List Int) (hr : Rd .u8 w b off bs) (ub : U8s bs) (t : Nat) (hlen : bs.length ≤ len) (hlc : len ≤ c) (ht : 4 * t + 4 ≤ bs.length) (hc : bs.length ≤ 1024) :
    Calls Tryz.prog 118 #[.slice (some ⟨b, off, none⟩) len c, .int .i64 t] w fun e w' => e = .returned (.int .u32 (wd32 bs t)) ∧ ∃ q, w' = w.drewN q := by
  obtain ⟨x0, h0⟩ : ∃ x, bs.getD (4 * t) 0 = x := ⟨_, rfl⟩
  obtain ⟨x1, h1⟩ : ∃ x, bs.getD (4 * t + 1) 0 = x := ⟨_, rfl⟩
  obtain ⟨x2, h2⟩ : ∃ x, bs.getD (4 * t + 2) 0 = x := ⟨_, rfl⟩
  obtain ⟨x3, h3⟩ : ∃ x, bs.getD (4 * t + 3) 0 = x := ⟨_, rfl⟩
  have u0 : U8 x0 := h0 ▸ ub.at _
  have u1 : U8 x1 := h1 ▸ ub.at _
  have u2 : U8 x2 := h2 ▸ ub.at _
  have u3 : U8 x3 := h3 ▸ ub.at _
  obtain ⟨a01, a02⟩ := u0
  obtain ⟨a11, a12⟩ := u1
  obtain ⟨a21, a22⟩ := u2
  obtain ⟨a31, a32⟩ := u3
  have c0 : w.cell? ⟨b, off + 4 * t, none⟩ = some (.int .u8 x0) := by rw [hr (4 * t) (by omega), h0]
  have c1 : w.cell? ⟨b, off + 4 * t + 1, none⟩ = some (.int .u8 x1) := by rw [Nat.add_assoc, hr (4 * t + 1) (by omega), h1]
  have c2 : w.cell? ⟨b, off + 4 * t + 2, none⟩ = some (.int .u8 x2) := by rw [Nat.add_assoc, hr (4 * t + 2) (by omega), h2]
  have c3 : w.cell? ⟨b, off + 4 * t + 3, none⟩ = some (.int .u8 x3) := by rw [Nat.add_assoc, hr (4 * t + 3) (by omega), h3]
  have HW : Hid (wd32 bs t = x0 * 16777216 + x1 * 65536 + x2 * 256 + x3) := by unfold wd32; rw [h0, h1, h2, h3]; rfl
  have e1 : bits .or .u32 (x0 * 16777216) (x1 * 65536) = x0 * 16777216 + x1 * 65536 := or_hi 24 x0 (x1 * 65536) a01 (by omega) (by omega) (by omega) (by decide)
  have e2 : bits .or .u32 (x0 * 16777216 + x1 * 65536) (x2 * 256) = x0 * 16777216 + x1 * 65536 + x2 * 256 := by
    have := or_hi 16 (x0 * 256 + x1) (x2 * 256) (by omega) (by omega) (by omega) (by omega) (by decide)
    have e : (x0 * 256 + x1) * 2 ^ 16 = x0 * 16777216 + x1 * 65536 := by omega
    rw [e] at this; exact this
  have e3 : bits .or .u32 (x0 * 16777216 + x1 * 65536 + x2 * 256) x3 = x0 * 16777216 + x1 * 65536 + x2 * 256 + x3 := by
    have := or_hi 8 (x0 * 65536 + x1 * 256 + x2) x3 (by omega) (by omega) (by omega) (by omega) (by decide)
    have e : (x0 * 65536 + x1 * 256 + x2) * 2 ^ 8 = x0 * 16777216 + x1 * 65536 + x2 * 256 := by omega
    rw [e] at this; exact this
  have hne : ¬ c = 4 * t := by omega
  clear h0 h1 h2 h3 hr ub
  go_enter Tryz.func118, Tryz.ntmps118
  go_upto_region 2 with (fail)
  go_quiet (fail)
  go_wp2
  go_ret
  exact ⟨by rw [HW.out]; rfl, _, rfl⟩
end Go.Proofs.YtjmiaakfdclfjaaGreatDoor.Sh
/-
  Digest: the walk of words256's loop.
-/
namespace Go.Proofs.YtjmiaakfdclfjaaGreatDoor.Sh
open Go.RowKit
set_option maxRecDepth 20000

def w256 (bs W : List Int) (t : Nat) : Int :=
  if t < 16 then wd32 bs t else (mvd32 (W.getD (t - 2) 0) 17 19 10 + W.getD (t - 7) 0 + mvd32 (W.getD (t - 15) 0) 7 18 3 + W.getD (t - 16) 0) % 4294967296
def sch256 (bs : List Int) : Nat → List Int
  | 0 => []
  | t + 1 => sch256 bs t ++ [w256 bs (sch256 bs t) t]
theorem sch256_len (bs : List Int) (t : Nat) : (sch256 bs t).length = t := by
  induction t with
  | zero => rfl
  | succ t ih => simp [sch256, ih]
theorem u32_mod (x : Int) : U32 (x % 4294967296) := ⟨Int.emod_nonneg _ (by decide), Int.emod_lt_of_pos _ (by decide)⟩
theorem Tryz.size64w : (Tryz.prog.info? 67).map (·.size) = some 64 := by kernel_rfl
theorem sch256_u32 {bs : List Int} (h : U8s bs) (t : Nat) : U32s (sch256 bs t) := by
  induction t with
  | zero => exact U32s.nil
  | succ t ih =>
    refine ih.append (U32s.cons ?_ U32s.nil)
    unfold w256; split
    · exact wd32_u32 h t
    · exact u32_mod _

theorem moved32_I (x i j k : Int) (w : World) (hx : U32 x) (hi : 1 ≤ i ∧ i ≤ 31) (hj : 1 ≤ j ∧ j ≤ 31) (hk : 0 ≤ k ∧ k ≤ 31) :
    Calls Tryz.prog 119 #[.int .u32 x, .int .i64 i, .int .i64 j, .int .i64 k] w fun e w' => e = .returned (.int .u32 (mvd32 x i.toNat j.toNat k.toNat)) ∧ ∃ q, w' = w.drewN q := by
  obtain ⟨i, rfl⟩ := Int.eq_ofNat_of_zero_le (show 0 ≤ i by omega)
  obtain ⟨j, rfl⟩ := Int.eq_ofNat_of_zero_le (show 0 ≤ j by omega)
  obtain ⟨k, rfl⟩ := Int.eq_ofNat_of_zero_le hk.1
  simp only [Int.toNat_natCast]
  exact moved32_any x hx i j k (by omega) (by omega) (by omega)
set_option maxHeartbeats 500000 in
theorem words256_any {w : World} (b off len c : Nat) (bs : List Int) (hb : b < w.heap.size) (hr : Rd .u8 w b off bs) (ub : U8s bs) (hlen : bs.length ≤ len) (hlc : len ≤ c) (hbs : bs.length = 64) :
    Calls Tryz.prog 111 #[.slice (some ⟨b, off, none⟩) len c] w fun e w' => e = .returned (.agg ((sch256 bs 64).map (Value.int .u32)).toArray) ∧ Below w.heap.size w w' := by
  go_enter Tryz.func111, Tryz.ntmps111
  go_wp2
  go_loopw [5] (fun iv wr => ∃ t : Nat, iv = .int .i64 t ∧ t ≤ 64 ∧ Arr .u32 67 wr (w.heap.size + 1) (sch256 bs t ++ List.replicate (64 - t) 0) ∧ Arr .u32 67 wr w.heap.size (List.replicate 64 0) ∧ Below w.heap.size w wr) (fun iv _ => 64 - (intOf iv).toNat)
  case atStart =>
    refine ⟨0, rfl, by omega, ?_, ?_, ((Below.refl _ _).alloc (Nat.le_refl _) _).alloc (by simp) _⟩
    · unfold Arr; rw [show w.heap.size + 1 = (w.alloc _).heap.size by simp, heap_alloc_new]; rfl
    · unfold Arr; rw [Below.heap_alloc _ _ _ (by simp), heap_alloc_new]; rfl
  case round =>
    obtain ⟨t, rfl, ht, hA, hZ, hBt⟩ := hrel
    by_cases hlt : t < 64
    · have hl : (sch256 bs t ++ List.replicate (64 - t) 0).length = 64 := by simp [sch256_len]; omega
      have hset : ∀ x, x = w256 bs (sch256 bs t) t → (sch256 bs t ++ List.replicate (64 - t) 0).set t x = sch256 bs (t + 1) ++ List.replicate (64 - (t + 1)) 0 := fun x hx => by
        have h1 := sch256_len bs t
        rw [List.set_append_right _ _ (by omega), h1, Nat.sub_self, show 64 - t = (64 - (t + 1)) + 1 by omega, List.replicate_succ, List.set_cons_zero, hx]
        simp [sch256]
      have hco := hA.cell t (by omega)
      obtain ⟨o, ho⟩ : ∃ o, (sch256 bs t ++ List.replicate (64 - t) 0).getD t 0 = o := ⟨_, rfl⟩
      rw [ho] at hco
      have hfo := hA.frozen t
      have HH : Hid (Arr .u32 67 wr (w.heap.size + 1) (sch256 bs t ++ List.replicate (64 - t) 0) ∧ Arr .u32 67 wr w.heap.size (List.replicate 64 0) ∧ Below w.heap.size w wr ∧ ∀ x, x = w256 bs (sch256 bs t) t → (sch256 bs t ++ List.replicate (64 - t) 0).set t x = sch256 bs (t + 1) ++ List.replicate (64 - (t + 1)) 0) := ⟨hA, hZ, hBt, hset⟩
      by_cases h16 : t < 16
      · have hw := fun w' (h' : Below w.heap.size w w') => word32_any (w := w') b off len c bs (below_rd h' hb hr) ub t hlen hlc (by omega) (by omega)
        have hwr := hw wr hBt
        have HV : Hid (wd32 bs t = w256 bs (sch256 bs t) t) := by unfold w256; rw [if_pos h16]; rfl
        clear hA hZ hBt hset ho hl hw
        go_wp2_with (go_at_call 118; refine hwr.mono ?_; rintro e w' ⟨rfl, q, rfl⟩)
        go_roundw
        case rel =>
          obtain ⟨hA, hZ, hBt, hset⟩ := HH.out
          refine ⟨t + 1, by go_num, by omega, ?_, ?_, ?_⟩
          · have h1 : Arr .u32 67 (wr.drewN q) (w.heap.size + 1) _ := hA
            have := h1.set t (wd32 bs t); rw [hset _ HV.out] at this; exact this
          · have h1 : Arr .u32 67 (wr.drewN q) w.heap.size _ := hZ
            exact (Upd.set _ (w.heap.size + 1) t _).arr h1 (by omega)
          · exact Below.setCell (w := wr.drewN q) (p := ⟨w.heap.size + 1, t, none⟩) (hBt.trans ⟨rfl, rfl, rfl, Nat.le_refl _, fun _ _ => rfl⟩) (show w.heap.size ≤ w.heap.size + 1 by omega) _
        case measure => simp [intOf]; omega
      · have hget : ∀ j, j < t → (sch256 bs t ++ List.replicate (64 - t) 0).getD j 0 = (sch256 bs t).getD j 0 := fun j hj => by
          rw [List.getD_eq_getElem?_getD, List.getElem?_append_left (by rw [sch256_len]; exact hj), ← List.getD_eq_getElem?_getD]
        obtain ⟨x2, e2⟩ : ∃ x, (sch256 bs t).getD (t - 2) 0 = x := ⟨_, rfl⟩
        obtain ⟨x7, e7⟩ : ∃ x, (sch256 bs t).getD (t - 7) 0 = x := ⟨_, rfl⟩
        obtain ⟨x15, e15⟩ : ∃ x, (sch256 bs t).getD (t - 15) 0 = x := ⟨_, rfl⟩
        obtain ⟨x16, e16⟩ : ∃ x, (sch256 bs t).getD (t - 16) 0 = x := ⟨_, rfl⟩
        have u2 : Hid (U32 x2) := e2 ▸ (sch256_u32 ub _).at _
        have u15 : Hid (U32 x15) := e15 ▸ (sch256_u32 ub _).at _
        have c2 : wr.cell? ⟨w.heap.size + 1, t - 2, none⟩ = some (.int .u32 x2) := by rw [hA.cell (t - 2) (by omega), hget _ (by omega), e2]
        have c7 : wr.cell? ⟨w.heap.size + 1, t - 7, none⟩ = some (.int .u32 x7) := by rw [hA.cell (t - 7) (by omega), hget _ (by omega), e7]
        have c15 : wr.cell? ⟨w.heap.size + 1, t - 15, none⟩ = some (.int .u32 x15) := by rw [hA.cell (t - 15) (by omega), hget _ (by omega), e15]
        have c16 : wr.cell? ⟨w.heap.size + 1, t - 16, none⟩ = some (.int .u32 x16) := by rw [hA.cell (t - 16) (by omega), hget _ (by omega), e16]
        have HV : Hid ((mvd32 x2 17 19 10 + x7 + mvd32 x15 7 18 3 + x16) % 4294967296 = w256 bs (sch256 bs t) t) := by
          unfold w256; rw [if_neg h16, e2, e7, e15, e16]; rfl
        clear hA hZ hBt hset ho hl e2 e7 e15 e16 hget
        go_upto_region 7 with (fail)
        refine wp_region_qsd 23 (by kernel_rfl) (by kernel_rfl) ?_
        simp only [List.take_succ_cons, List.take_zero, List.drop_succ_cons, List.drop_zero]
        repeat (go_big_quiet_step ((go_at_call 119; exact Calls.quiet_of (moved32_I _ _ _ _ _ (by first | exact u2.out | exact u15.out) (by omega) (by omega) (by omega)))))
        refine wpQuiet_nil ?_
        rintro _ ⟨q, rfl⟩
        go_wp2
        go_roundw
        case rel =>
          obtain ⟨hA, hZ, hBt, hset⟩ := HH.out
          refine ⟨t + 1, by go_num, by omega, ?_, ?_, ?_⟩
          · have h1 : Arr .u32 67 (wr.drewN q) (w.heap.size + 1) _ := hA
            have := h1.set t (w256 bs (sch256 bs t) t); rw [hset _ rfl, ← HV.out] at this; exact this
          · have h1 : Arr .u32 67 (wr.drewN q) w.heap.size _ := hZ
            exact (Upd.set _ (w.heap.size + 1) t _).arr h1 (by omega)
          · exact Below.setCell (w := wr.drewN q) (p := ⟨w.heap.size + 1, t, none⟩) (hBt.trans ⟨rfl, rfl, rfl, Nat.le_refl _, fun _ _ => rfl⟩) (show w.heap.size ≤ w.heap.size + 1 by omega) _
        case measure => simp [intOf]; omega
    · obtain rfl : t = 64 := by omega
      have hA' : Blk 67 wr (w.heap.size + 1) ((sch256 bs 64).map (Value.int .u32)) := by simpa using hA.blk
      have hlen : ((sch256 bs 64).map (Value.int .u32)).length = 64 := by simp [sch256_len]
      have hsz : (Tryz.prog.info? 67).map (·.size) = some ((sch256 bs 64).map (Value.int .u32)).length := by rw [hlen]; exact Tryz.size64w
      have hone := ints_one .u32 (sch256 bs 64)
      have hZl : (List.replicate 64 (0 : Int)).length = 64 := by simp
      obtain ⟨cs, hcs⟩ : ∃ cs, (sch256 bs 64).map (Value.int .u32) = cs := ⟨_, rfl⟩
      rw [hcs] at hA' hlen hsz hone
      have HC : Hid ((sch256 bs 64).map (Value.int .u32) = cs) := hcs
      clear hcs
      have hZb := hZ.blk
      have HF : Hid (Blk 67 (wr.setCells w.heap.size 0 cs) w.heap.size cs ∧ Below w.heap.size w (wr.setCells w.heap.size 0 cs)) := ⟨hZb.fill cs (by simp [hlen]), (Upd.setCells cs 0 wr).below hBt hBt.size (Nat.le_refl _)⟩
      have hth : wr.there w.heap.size 0 cs.toArray.size := hZb.there 0 _ (by simp [hlen])
      have hrg := hA'.whole
      have HA : Hid (wr.rangeAt (w.heap.size + 1) 0 cs ∧ wr.there w.heap.size 0 cs.toArray.size) := ⟨hrg, hth⟩
      have HS : Hid ((Tryz.prog.info? 67).map (·.size) = some cs.length) := hsz
      have HO : Hid (cs.toArray.all (·.oneCell') = true) := hone
      clear hA hZ hBt hA' hlen hsz hone hZl hZb hth hrg
      go_wp2_with (first
        | (refine wpList_load_mid rfl _ _ rfl (w.heap.size + 1) 0 rfl cs _ HA.out.1 Tryz.underlying67 rfl HS.out ?_)
        | (refine wpList_store_mid rfl _ _ _ rfl w.heap.size 0 cs.toArray rfl rfl HA.out.2 (by simpa using HS.out) HO.out ?_))
      refine bodyPost_ret (v := .agg cs.toArray) (results_blk (b := w.heap.size) (cs := cs) rfl rfl HF.out.1 Tryz.underlying67 rfl HS.out) rfl ⟨by rw [HC.out], HF.out.2⟩
end Go.Proofs.YtjmiaakfdclfjaaGreatDoor.Sh
/-
  Digest: the walk of words1.
-/
namespace Go.Proofs.YtjmiaakfdclfjaaGreatDoor.Sh
open Go.RowKit
set_option maxRecDepth 20000

def w1 (bs W : List Int) (t : Nat) : Int :=
  if t < 16 then wd32 bs t else rot32 (bits .xor .u32 (bits .xor .u32 (bits .xor .u32 (W.getD (t - 3) 0) (W.getD (t - 8) 0)) (W.getD (t - 14) 0)) (W.getD (t - 16) 0)) 1
def sch1 (bs : List Int) : Nat → List Int
  | 0 => []
  | t + 1 => sch1 bs t ++ [w1 bs (sch1 bs t) t]
theorem sch1_len (bs : List Int) (t : Nat) : (sch1 bs t).length = t := by
  induction t with
  | zero => rfl
  | succ t ih => simp [sch1, ih]
theorem Tryz.size80w : (Tryz.prog.info? 64).map (·.size) = some 80 := by kernel_rfl
theorem bits_u32 (op : BinOp) (x y : Int) : U32 (bits op .u32 x y) := by
  unfold bits; simp only []; rw [IntKind.wrap_u32']; exact ⟨Int.emod_nonneg _ (by decide), Int.emod_lt_of_pos _ (by decide)⟩
theorem sch1_u32 {bs : List Int} (h : U8s bs) (t : Nat) : U32s (sch1 bs t) := by
  induction t with
  | zero => exact U32s.nil
  | succ t ih =>
    refine ih.append (U32s.cons ?_ U32s.nil)
    unfold w1; split
    · exact wd32_u32 h t
    · exact bits_u32 _ _ _

set_option maxHeartbeats 500000 in
theorem words1_any {w : World} (b off len c : Nat) (bs : List Int) (hb : b < w.heap.size) (hr : Rd .u8 w b off bs) (ub : U8s bs) (hlen : bs.length ≤ len) (hlc : len ≤ c) (hbs : bs.length = 64) :
    Calls Tryz.prog 108 #[.slice (some ⟨b, off, none⟩) len c] w fun e w' => e = .returned (.agg ((sch1 bs 80).map (Value.int .u32)).toArray) ∧ Below w.heap.size w w' := by
  go_enter Tryz.func108, Tryz.ntmps108
  go_wp2
  go_loopw [5] (fun iv wr => ∃ t : Nat, iv = .int .i64 t ∧ t ≤ 80 ∧ Arr .u32 64 wr (w.heap.size + 1) (sch1 bs t ++ List.replicate (80 - t) 0) ∧ Arr .u32 64 wr w.heap.size (List.replicate 80 0) ∧ Below w.heap.size w wr) (fun iv _ => 80 - (intOf iv).toNat)
  case atStart =>
    refine ⟨0, rfl, by omega, ?_, ?_, ((Below.refl _ _).alloc (Nat.le_refl _) _).alloc (by simp) _⟩
    · unfold Arr; rw [show w.heap.size + 1 = (w.alloc _).heap.size by simp, heap_alloc_new]; rfl
    · unfold Arr; rw [Below.heap_alloc _ _ _ (by simp), heap_alloc_new]; rfl
  case round =>
    obtain ⟨t, rfl, ht, hA, hZ, hBt⟩ := hrel
    by_cases hlt : t < 80
    · have hl : (sch1 bs t ++ List.replicate (80 - t) 0).length = 80 := by simp [sch1_len]; omega
      have hset : ∀ x, x = w1 bs (sch1 bs t) t → (sch1 bs t ++ List.replicate (80 - t) 0).set t x = sch1 bs (t + 1) ++ List.replicate (80 - (t + 1)) 0 := fun x hx => by
        have h1 := sch1_len bs t
        rw [List.set_append_right _ _ (by omega), h1, Nat.sub_self, show 80 - t = (80 - (t + 1)) + 1 by omega, List.replicate_succ, List.set_cons_zero, hx]
        simp [sch1]
      have hco := hA.cell t (by omega)
      obtain ⟨o, ho⟩ : ∃ o, (sch1 bs t ++ List.replicate (80 - t) 0).getD t 0 = o := ⟨_, rfl⟩
      rw [ho] at hco
      have hfo := hA.frozen t
      have HH : Hid (Arr .u32 64 wr (w.heap.size + 1) (sch1 bs t ++ List.replicate (80 - t) 0) ∧ Arr .u32 64 wr w.heap.size (List.replicate 80 0) ∧ Below w.heap.size w wr ∧ ∀ x, x = w1 bs (sch1 bs t) t → (sch1 bs t ++ List.replicate (80 - t) 0).set t x = sch1 bs (t + 1) ++ List.replicate (80 - (t + 1)) 0) := ⟨hA, hZ, hBt, hset⟩
      by_cases h16 : t < 16
      · have hw := fun w' (h' : Below w.heap.size w w') => word32_any (w := w') b off len c bs (below_rd h' hb hr) ub t hlen hlc (by omega) (by omega)
        have hwr := hw wr hBt
        have HV : Hid (wd32 bs t = w1 bs (sch1 bs t) t) := by unfold w1; rw [if_pos h16]; rfl
        clear hA hZ hBt hset ho hl hw
        go_wp2_with (go_at_call 118; refine hwr.mono ?_; rintro e w' ⟨rfl, q, rfl⟩)
        go_roundw
        case rel =>
          obtain ⟨hA, hZ, hBt, hset⟩ := HH.out
          refine ⟨t + 1, by go_num, by omega, ?_, ?_, ?_⟩
          · have h1 : Arr .u32 64 (wr.drewN q) (w.heap.size + 1) _ := hA
            have := h1.set t (wd32 bs t); rw [hset _ HV.out] at this; exact this
          · have h1 : Arr .u32 64 (wr.drewN q) w.heap.size _ := hZ
            exact (Upd.set _ (w.heap.size + 1) t _).arr h1 (by omega)
          · exact Below.setCell (w := wr.drewN q) (p := ⟨w.heap.size + 1, t, none⟩) (hBt.trans ⟨rfl, rfl, rfl, Nat.le_refl _, fun _ _ => rfl⟩) (show w.heap.size ≤ w.heap.size + 1 by omega) _
        case measure => simp [intOf]; omega
      · have hget : ∀ j, j < t → (sch1 bs t ++ List.replicate (80 - t) 0).getD j 0 = (sch1 bs t).getD j 0 := fun j hj => by
          rw [List.getD_eq_getElem?_getD, List.getElem?_append_left (by rw [sch1_len]; exact hj), ← List.getD_eq_getElem?_getD]
        obtain ⟨x3, e3⟩ : ∃ x, (sch1 bs t).getD (t - 3) 0 = x := ⟨_, rfl⟩
        obtain ⟨x8, e8⟩ : ∃ x, (sch1 bs t).getD (t - 8) 0 = x := ⟨_, rfl⟩
        obtain ⟨x14, e14⟩ : ∃ x, (sch1 bs t).getD (t - 14) 0 = x := ⟨_, rfl⟩
        obtain ⟨x16, e16⟩ : ∃ x, (sch1 bs t).getD (t - 16) 0 = x := ⟨_, rfl⟩
        have c3 : wr.cell? ⟨w.heap.size + 1, t - 3, none⟩ = some (.int .u32 x3) := by rw [hA.cell (t - 3) (by omega), hget _ (by omega), e3]
        have c8 : wr.cell? ⟨w.heap.size + 1, t - 8, none⟩ = some (.int .u32 x8) := by rw [hA.cell (t - 8) (by omega), hget _ (by omega), e8]
        have c14 : wr.cell? ⟨w.heap.size + 1, t - 14, none⟩ = some (.int .u32 x14) := by rw [hA.cell (t - 14) (by omega), hget _ (by omega), e14]
        have c16 : wr.cell? ⟨w.heap.size + 1, t - 16, none⟩ = some (.int .u32 x16) := by rw [hA.cell (t - 16) (by omega), hget _ (by omega), e16]
        have HV : Hid (rot32 (bits .xor .u32 (bits .xor .u32 (bits .xor .u32 x3 x8) x14) x16) (sh32 1) = w1 bs (sch1 bs t) t) := by
          unfold w1; rw [if_neg h16, e3, e8, e14, e16]; rfl
        clear hA hZ hBt hset ho hl e3 e8 e14 e16 hget
        go_upto_region 7 with (fail)
        refine wp_region_qsd 22 (by kernel_rfl) (by kernel_rfl) ?_
        simp only [List.take_succ_cons, List.take_zero, List.drop_succ_cons, List.drop_zero]
        repeat (go_big_quiet_step ((go_at_call 109; exact Calls.quiet_of_same (rot32_any _ _ (bits_u32 _ _ _)))))
        refine wpQuiet_nil ?_
        rintro _ ⟨q, rfl⟩
        go_wp2
        go_roundw
        case rel =>
          obtain ⟨hA, hZ, hBt, hset⟩ := HH.out
          refine ⟨t + 1, by go_num, by omega, ?_, ?_, ?_⟩
          · have h1 : Arr .u32 64 (wr.drewN q) (w.heap.size + 1) _ := hA
            have := h1.set t (w1 bs (sch1 bs t) t); rw [hset _ rfl, ← HV.out] at this; exact this
          · have h1 : Arr .u32 64 (wr.drewN q) w.heap.size _ := hZ
            exact (Upd.set _ (w.heap.size + 1) t _).arr h1 (by omega)
          · exact Below.setCell (w := wr.drewN q) (p := ⟨w.heap.size + 1, t, none⟩) (hBt.trans ⟨rfl, rfl, rfl, Nat.le_refl _, fun _ _ => rfl⟩) (show w.heap.size ≤ w.heap.size + 1 by omega) _
        case measure => simp [intOf]; omega
    · obtain rfl : t = 80 := by omega
      have hA' : Blk 64 wr (w.heap.size + 1) ((sch1 bs 80).map (Value.int .u32)) := by simpa using hA.blk
      have hlen : ((sch1 bs 80).map (Value.int .u32)).length = 80 := by simp [sch1_len]
      have hsz : (Tryz.prog.info? 64).map (·.size) = some ((sch1 bs 80).map (Value.int .u32)).length := by rw [hlen]; exact Tryz.size80w
      have hone := ints_one .u32 (sch1 bs 80)
      have hZl : (List.replicate 80 (0 : Int)).length = 80 := by simp
      obtain ⟨cs, hcs⟩ : ∃ cs, (sch1 bs 80).map (Value.int .u32) = cs := ⟨_, rfl⟩
      rw [hcs] at hA' hlen hsz hone
      have HC : Hid ((sch1 bs 80).map (Value.int .u32) = cs) := hcs
      clear hcs
      have hZb := hZ.blk
      have HF : Hid (Blk 64 (wr.setCells w.heap.size 0 cs) w.heap.size cs ∧ Below w.heap.size w (wr.setCells w.heap.size 0 cs)) := ⟨hZb.fill cs (by simp [hlen]), (Upd.setCells cs 0 wr).below hBt hBt.size (Nat.le_refl _)⟩
      have hth : wr.there w.heap.size 0 cs.toArray.size := hZb.there 0 _ (by simp [hlen])
      have hrg := hA'.whole
      have HA : Hid (wr.rangeAt (w.heap.size + 1) 0 cs ∧ wr.there w.heap.size 0 cs.toArray.size) := ⟨hrg, hth⟩
      have HS : Hid ((Tryz.prog.info? 64).map (·.size) = some cs.length) := hsz
      have HO : Hid (cs.toArray.all (·.oneCell') = true) := hone
      clear hA hZ hBt hA' hlen hsz hone hZl hZb hth hrg
      go_wp2_with (first
        | (refine wpList_load_mid rfl _ _ rfl (w.heap.size + 1) 0 rfl cs _ HA.out.1 Tryz.underlying64 rfl HS.out ?_)
        | (refine wpList_store_mid rfl _ _ _ rfl w.heap.size 0 cs.toArray rfl rfl HA.out.2 (by simpa using HS.out) HO.out ?_))
      refine bodyPost_ret (v := .agg cs.toArray) (results_blk (b := w.heap.size) (cs := cs) rfl rfl HF.out.1 Tryz.underlying64 rfl HS.out) rfl ⟨by rw [HC.out], HF.out.2⟩
end Go.Proofs.YtjmiaakfdclfjaaGreatDoor.Sh
