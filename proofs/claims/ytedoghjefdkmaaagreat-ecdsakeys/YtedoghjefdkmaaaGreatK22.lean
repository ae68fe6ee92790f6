/-
  Ecdsa: Parse.
-/
import Derived.Test.YtedoghjefdkmaaaGreatK21
namespace Go.Proofs.YtedoghjefdkmaaaGreat
open Go.RowKit
theorem ecP_nil {x y : El} (h : (ecP x y).2.2 ≠ 0) : ecP x y = ([], [], (ecP x y).2.2) := by
  unfold ecP at h ⊢
  repeat' split
  all_goals first | rfl | (simp_all; done)
theorem ecL_nil : ∀ {S : Sp}, (ecL S).2.2 ≠ 0 → ecL S = ([], [], (ecL S).2.2)
  | .bad _ _, _ => rfl
  | .ok [], _ => rfl
  | .ok [_], _ => rfl
  | .ok [_, _], h => ecP_nil h
  | .ok (_ :: _ :: _ :: _), _ => rfl
theorem ecS_nil {M : List Int} (h : (ecS M).2.2 ≠ 0) : ecS M = ([], [], (ecS M).2.2) := by
  unfold ecS ecO at h ⊢
  split
  · rfl
  · rename_i h1
    rw [if_neg h1] at h
    split
    · rfl
    · rename_i h2
      rw [if_neg h2] at h
      exact ecL_nil h
def ParsePost (M : List Int) (w0 : World) (b2 b3 : Nat) (n : Int) (w : World) : Prop :=
  n = (ecS M).2.2 ∧ Below w0.heap.size w0 w ∧ ∃ a2 n2 c2 a3 n3 c3, Blk 22 w b2 [.slice a2 n2 c2] ∧ Blk 22 w b3 [.slice a3 n3 c3] ∧ Sl .u32 w (.slice a2 n2 c2) (ecS M).1 ∧ Sl .u32 w (.slice a3 n3 c3) (ecS M).2.1
theorem slice_nn {k : IntKind} {a : Option Addr} {n c : Nat} : ∀ x ∈ [Value.slice a n c], ∀ m, x ≠ .int k m := by
  intro x hx m; rw [List.mem_singleton] at hx; subst hx; intro h; cases h
theorem sl_is {k : IntKind} {w : World} {v : Value} {L : List Int} (h : Sl k w v L) : ∃ a n c, v = .slice a n c := by
  obtain ⟨a, c, rfl, _⟩ := h; exact ⟨_, _, _, rfl⟩
theorem Sl.nil0 (k : IntKind) (w : World) : Sl k w (.slice none 0 0) [] := ⟨none, 0, rfl, Nat.le_refl _, .inl rfl⟩
set_option maxRecDepth 20000 in
set_option maxHeartbeats 4000000 in
theorem parse1_any {w w0 : World} (v : Value) (M : List Int) (b1 b2 b3 b4 : Nat) (h1 : Blk 25 w b1 [v]) (h2 : Blk 22 w b2 [.slice none 0 0]) (h3 : Blk 22 w b3 [.slice none 0 0]) (h4 : Blk 28 w b4 [.int .i64 0])
    (h23 : b2 ≠ b3) (h24 : b4 ≠ b2) (h34 : b4 ≠ b3) (hb2 : w0.heap.size ≤ b2) (hb3 : w0.heap.size ≤ b3) (hw : Below w0.heap.size w0 w) (hv : Sl .u8 w v M) (uM : U8s M) (hl : M.length ≤ 16384) :
    Calls Tryz.prog 50 #[.pointer (some ⟨b1, 0, none⟩), .pointer (some ⟨b2, 0, none⟩), .pointer (some ⟨b3, 0, none⟩)] w fun e w1 =>
      Blk 28 w1 b4 [.int .i64 0] ∧ ((e = .returned (.tuple #[]) ∧ ParsePost M w0 b2 b3 0 w1) ∨ ∃ n, e = .panicked [{ v := refu n, recovered := false }] ∧ ParsePost M w0 b2 b3 n w1) := by
  have HR : Hid (Calls Tryz.prog 51 #[v] w fun e w' => ReadAns M w w' e) := read_any v M hv uM hl
  obtain ⟨va, vn, vc, rfl⟩ := sl_is hv
  have c1 : w.cell? ⟨b1, 0, none⟩ = some (.slice va vn vc) := h1.cell 0
  have HH : Hid (Blk 22 w b2 [.slice none 0 0] ∧ Blk 22 w b3 [.slice none 0 0] ∧ Blk 28 w b4 [.int .i64 0] ∧ Below w0.heap.size w0 w) := ⟨h2, h3, h4, hw⟩
  clear h1 h2 h3 h4 hw hv
  go_enter Tryz.func50, Tryz.ntmps50
  go_wp2_with fail
  refine HR.out.mono ?_
  rintro e w1 ⟨hg, hb⟩
  have k2 := below_blk hb HH.out.1.lt HH.out.1
  have k3 := below_blk hb HH.out.2.1.lt HH.out.2.1
  have k4 := below_blk hb HH.out.2.2.1.lt HH.out.2.2.1
  have hw1 : Below w0.heap.size w0 w1 := below_via HH.out.2.2.2 hb (Nat.le_refl _)
  by_cases h0 : (ecS M).2.2 = 0
  · unfold GiveUp at hg
    rw [if_pos h0] at hg
    obtain ⟨r, s, rfl, hr, hs⟩ := hg
    obtain ⟨a2, n2, c2, rfl⟩ := sl_is hr
    obtain ⟨a3, n3, c3, rfl⟩ := sl_is hs
    have d2 : w1.cell? ⟨b2, 0, none⟩ = some (.slice none 0 0) := k2.cell 0
    have d3 : w1.cell? ⟨b3, 0, none⟩ = some (.slice none 0 0) := k3.cell 0
    have f2 := k2.frozen 0
    have f3 := k3.frozen 0
    have u2 := Upd.set w1 b2 0 (.slice a2 n2 c2)
    have m2 : Blk 22 (w1.setCell ⟨b2, 0, none⟩ (.slice a2 n2 c2)) b2 [.slice a2 n2 c2] := k2.set 0 _
    have m3 := u2.blk k3 (Ne.symm h23)
    have u3 := Upd.set (w1.setCell ⟨b2, 0, none⟩ (.slice a2 n2 c2)) b3 0 (.slice a3 n3 c3)
    have p3 : Blk 22 ((w1.setCell ⟨b2, 0, none⟩ (.slice a2 n2 c2)).setCell ⟨b3, 0, none⟩ (.slice a3 n3 c3)) b3 [.slice a3 n3 c3] := m3.set 0 _
    have p2 := u3.blk m2 h23
    have HP : Hid (Blk 28 ((w1.setCell ⟨b2, 0, none⟩ (.slice a2 n2 c2)).setCell ⟨b3, 0, none⟩ (.slice a3 n3 c3)) b4 [.int .i64 0] ∧ ParsePost M w0 b2 b3 0 ((w1.setCell ⟨b2, 0, none⟩ (.slice a2 n2 c2)).setCell ⟨b3, 0, none⟩ (.slice a3 n3 c3))) :=
      ⟨u3.blk (u2.blk k4 h24) h34, h0.symm, u3.below (u2.below hw1 hw1.size hb2) (by have := hw1.size; have := u2.size; omega) hb3, a2, n2, c2, a3, n3, c3, p2, p3, sl_upd (sl_upd hr k2 slice_nn u2) m3 slice_nn u3, sl_upd (sl_upd hs k2 slice_nn u2) m3 slice_nn u3⟩
    have g3 : (w1.setCell ⟨b2, 0, none⟩ (.slice a2 n2 c2)).cell? ⟨b3, 0, none⟩ = some (.slice none 0 0) := m3.cell 0
    have g3f := m3.frozen 0
    clear hr hs k2 k3 k4 u2 m2 m3 u3 p3 p2 hb hw1
    go_wp2
    go_end0
    exact ⟨HP.out.1, .inl ⟨rfl, HP.out.2⟩⟩
  · have hn := ecS_nil h0
    unfold GiveUp at hg
    rw [if_neg h0] at hg
    subst hg
    have HP : Hid (Blk 28 w1 b4 [.int .i64 0] ∧ ParsePost M w0 b2 b3 (ecS M).2.2 w1) := ⟨k4, rfl, hw1, none, 0, 0, none, 0, 0, k2, k3, by rw [hn]; exact Sl.nil0 _ _, by rw [hn]; exact Sl.nil0 _ _⟩
    clear hn k2 k3 k4 hb hw1
    go_wp2
    exact ⟨rfl, HP.out.1, .inr ⟨_, rfl, HP.out.2⟩⟩
def ParseAns (M : List Int) (w w' : World) (e : Ending) : Prop := ∃ r s, e = .returned (.tuple #[r, s, .int .i64 (ecS M).2.2]) ∧ Sl .u32 w' r (ecS M).1 ∧ Sl .u32 w' s (ecS M).2.1 ∧ Below w.heap.size w w'
theorem enter20 (caps : Array Value) (w : World) : (callFunc 50 caps).run Tryz.prog w = .ok (.enter 50 caps) w := by
  simp [go_sem]
set_option maxRecDepth 20000 in
set_option maxHeartbeats 4000000 in
theorem Parse_any {w : World} (v : Value) (M : List Int) (hv : Sl .u8 w v M) (uM : U8s M) (hl : M.length ≤ 16384) :
    Calls Tryz.prog 20 #[v] w fun e w' => ParseAns M w w' e := by
  have hmf : ∀ (fn : Fn) (first cap : Array Value) (w : World), (Instr.makeFunc fn first cap).run Tryz.prog w = .ok (.func fn first cap) w := fun _ _ _ _ => rfl
  obtain ⟨va, vn, vc, rfl⟩ := sl_is hv
  have HX : Hid (Sl .u8 w (.slice va vn vc) M ∧ U8s M ∧ M.length ≤ 16384) := ⟨hv, uM, hl⟩
  clear hv uM hl
  go_enter Tryz.func20, Tryz.ntmps20
  go_wp2_with fail
  have t1 : Blk 25 (w.alloc (.cells #[.slice va vn vc] 25)) w.heap.size [.slice va vn vc] := Blk.new ..
  have t2 : Blk 22 ((w.alloc (.cells #[.slice va vn vc] 25)).alloc (.cells #[.slice none 0 0] 22)) (w.heap.size + 1) [.slice none 0 0] := by simpa using Blk.new 22 (w.alloc (.cells #[.slice va vn vc] 25)) [.slice none 0 0]
  obtain ⟨W, hW⟩ : ∃ W, (((w.alloc (.cells #[.slice va vn vc] 25)).alloc (.cells #[.slice none 0 0] 22)).alloc (.cells #[.slice none 0 0] 22)) = W := ⟨_, rfl⟩
  have t3 : Blk 22 W (w.heap.size + 1 + 1) [.slice none 0 0] := by rw [← hW]; simpa using Blk.new 22 ((w.alloc (.cells #[.slice va vn vc] 25)).alloc (.cells #[.slice none 0 0] 22)) [.slice none 0 0]
  have hB : Below w.heap.size w W := by rw [← hW]; exact below_via (below_via (al1 _) (al1 _) (Nat.le_refl _)) (al1 _) (Nat.le_refl _)
  have hs : W.heap.size = w.heap.size + 1 + 1 + 1 := by rw [← hW]; simp
  have HW : Hid (Blk 25 W w.heap.size [.slice va vn vc] ∧ Blk 22 W (w.heap.size + 1) [.slice none 0 0] ∧ Blk 22 W (w.heap.size + 1 + 1) [.slice none 0 0] ∧ Below w.heap.size w W ∧ W.heap.size = w.heap.size + 1 + 1 + 1) := ⟨by rw [← hW]; exact (t1.alloc _).alloc _, by rw [← hW]; exact t2.alloc _, t3, hB, hs⟩
  rw [hW]
  clear t1 t2 t3 hB hs hW
  refine (attempt_any 50 _ (ParsePost M w (w.heap.size + 1) (w.heap.size + 1 + 1)) (enter20 _) ?_).mono ?_
  · obtain ⟨t1, t2, t3, hB, hs⟩ := HW.out
    exact parse1_any (w0 := w) _ M w.heap.size (w.heap.size + 1) (w.heap.size + 1 + 1) W.heap.size (t1.alloc _) (t2.alloc _) (t3.alloc _) (Blk.new ..) (by omega) (by omega) (by omega) (by omega) (by omega) (below_via hB (al1 _) (Nat.le_refl _)) (below_sl (below_via hB (al1 _) (Nat.le_refl _)) HX.out.1) HX.out.2.1 HX.out.2.2
  rintro e w2 ⟨n, w1, rfl, ⟨rfl, hb1, a2, n2, c2, a3, n3, c3, k2, k3, s2, s3⟩, k4, hU⟩
  have hs := HW.out.2.2.2.2
  have j2 := hU.blk k2 (by omega)
  have j3 := hU.blk k3 (by omega)
  have i4 : ∀ c ∈ [Value.int .i64 0], ∀ n, c ≠ .int .u32 n := by intro c hc n; rw [List.mem_singleton] at hc; subst hc; intro h; cases h
  have hb2 : Below w.heap.size w w2 := hU.below hb1 hb1.size (by omega)
  have HS : Hid (Sl .u32 w2 (.slice a2 n2 c2) (ecS M).1 ∧ Sl .u32 w2 (.slice a3 n3 c3) (ecS M).2.1 ∧ Blk 22 w2 (w.heap.size + 1) [.slice a2 n2 c2] ∧ Blk 22 w2 (w.heap.size + 1 + 1) [.slice a3 n3 c3] ∧ Below w.heap.size w w2) := ⟨sl_upd s2 k4 i4 hU, sl_upd s3 k4 i4 hU, j2, j3, hb2⟩
  have d2 : w2.cell? ⟨w.heap.size + 1, 0, none⟩ = some (.slice a2 n2 c2) := j2.cell 0
  have d3 : w2.cell? ⟨w.heap.size + 1 + 1, 0, none⟩ = some (.slice a3 n3 c3) := j3.cell 0
  have f2 : w2.frozen? ⟨w.heap.size + 1, 0, none⟩ = false := j2.frozen 0
  have f3 : w2.frozen? ⟨w.heap.size + 1 + 1, 0, none⟩ = false := j3.frozen 0
  have u2 := Upd.set w2 (w.heap.size + 1) 0 (.slice a2 n2 c2)
  have m2 : Blk 22 (w2.setCell ⟨w.heap.size + 1, 0, none⟩ (.slice a2 n2 c2)) (w.heap.size + 1) [.slice a2 n2 c2] := j2.set 0 _
  have m3 := u2.blk j3 (by omega)
  have u3 := Upd.set (w2.setCell ⟨w.heap.size + 1, 0, none⟩ (.slice a2 n2 c2)) (w.heap.size + 1 + 1) 0 (.slice a3 n3 c3)
  have p3 : Blk 22 ((w2.setCell ⟨w.heap.size + 1, 0, none⟩ (.slice a2 n2 c2)).setCell ⟨w.heap.size + 1 + 1, 0, none⟩ (.slice a3 n3 c3)) (w.heap.size + 1 + 1) [.slice a3 n3 c3] := m3.set 0 _
  have p2 := u3.blk m2 (by omega)
  have HP : Hid (Sl .u32 ((w2.setCell ⟨w.heap.size + 1, 0, none⟩ (.slice a2 n2 c2)).setCell ⟨w.heap.size + 1 + 1, 0, none⟩ (.slice a3 n3 c3)).drew (.slice a2 n2 c2) (ecS M).1 ∧ Sl .u32 ((w2.setCell ⟨w.heap.size + 1, 0, none⟩ (.slice a2 n2 c2)).setCell ⟨w.heap.size + 1 + 1, 0, none⟩ (.slice a3 n3 c3)).drew (.slice a3 n3 c3) (ecS M).2.1 ∧ Below w.heap.size w ((w2.setCell ⟨w.heap.size + 1, 0, none⟩ (.slice a2 n2 c2)).setCell ⟨w.heap.size + 1 + 1, 0, none⟩ (.slice a3 n3 c3)).drew) :=
    ⟨below_sl (Below.drew (Below.refl _ _)) (sl_upd (sl_upd HS.out.1 j2 slice_nn u2) m3 slice_nn u3), below_sl (Below.drew (Below.refl _ _)) (sl_upd (sl_upd HS.out.2.1 j2 slice_nn u2) m3 slice_nn u3), Below.drew (u3.below (u2.below hb2 hb2.size (by omega)) (by have := hb2.size; have := u2.size; omega) (by omega))⟩
  clear hs j2 j3 i4 hb2 hU k2 k3 k4 s2 s3 hb1 HW HX u2 m2 m3 u3 p2 p3 HS
  go_wp2_with fail
  go_region
  go_wp2
  refine bodyPost_ret (v := .tuple #[.slice a2 n2 c2, .slice a3 n3 c3, .int .i64 (ecS M).2.2]) (by simp [results, Tryz.results20, go_sem, d2, d3]) rfl ?_
  exact ⟨_, _, rfl, HP.out⟩
end Go.Proofs.YtedoghjefdkmaaaGreat
/-
  Der: small numbers there and back, without a walk.
-/
namespace Go.Proofs.YtedoghjefdkmaaaGreat
open Go.RowKit
theorem iv_pI {n : Int} {m : Nat} (h1 : 1 ≤ m) (hp : pk n (m - 1)) : ∀ i, i ≤ m → iv (pI n m) i = qs n (m - i)
  | 0, _ => by
    show (if 128 ≤ (pI n m).getD 0 0 then (-1 : Int) else 0) = qs n (m - 0)
    rw [pI_get n m 0 (by omega)]
    unfold pk at hp
    rw [rsI_qs] at hp
    obtain ⟨d, rfl⟩ : ∃ d, m = d + 1 := ⟨m - 1, by omega⟩
    rw [show d + 1 - 1 - 0 = d by omega, show d + 1 - 0 = d + 1 by omega]
    rw [show d + 1 - 1 = d by omega] at hp
    show _ = qs n d / 256
    obtain ⟨a, ha⟩ : ∃ a, qs n d = a := ⟨_, rfl⟩
    rw [ha] at hp ⊢
    split <;> omega
  | i + 1, hi => by
    show 256 * iv (pI n m) i + (pI n m).getD i 0 = _
    rw [iv_pI h1 hp i (by omega), pI_get n m i (by omega), show m - i = (m - (i + 1)) + 1 by omega, show m - 1 - i = m - (i + 1) by omega]
    show 256 * (qs n (m - (i + 1)) / 256) + _ = _
    omega
theorem int_there {n : Int} {m : Nat} (h : IsM n m) : intV (pI n m) = n ∧ intE (pI n m) = 0 := by
  have hok := (int_pI h.1 h.2.2.1).2 h.2.2.2
  refine ⟨?_, ?_⟩
  · unfold intV
    rw [if_pos ⟨hok, by rw [pI_len]; exact h.2.1⟩, pI_len, iv_pI h.1 h.2.2.1 m (Nat.le_refl _), Nat.sub_self]
    rfl
  · unfold intE
    rw [if_neg (by rw [hok]; simp), if_neg (by rw [pI_len]; have := h.2.1; omega)]
theorem qs_iv {X : List Int} (hU : U8s X) (L : Nat) : ∀ d, d ≤ L → qs (iv X L) d = iv X (L - d)
  | 0, _ => rfl
  | d + 1, hd => by
    show qs (iv X L) d / 256 = _
    rw [qs_iv hU L d (by omega), show L - d = (L - (d + 1)) + 1 by omega]
    show (256 * iv X (L - (d + 1)) + X.getD (L - (d + 1)) 0) / 256 = _
    have h := hU.at (L - (d + 1))
    unfold U8 at h
    omega
theorem pI_iv {X : List Int} (hU : U8s X) : pI (iv X X.length) X.length = X := by
  refine List.ext_getElem (pI_len _ _) (fun i h1 h2 => ?_)
  have h := pI_get (iv X X.length) X.length i h2
  rw [List.getD_eq_getElem?_getD, List.getElem?_eq_getElem h1, qs_iv hU _ _ (by omega), show X.length - (X.length - 1 - i) = i + 1 by omega] at h
  have e : iv X (i + 1) = 256 * iv X i + X.getD i 0 := rfl
  have hb := hU.at i
  unfold U8 at hb
  rw [e] at h
  have h3 : X.getD i 0 = X[i] := by rw [List.getD_eq_getElem?_getD, List.getElem?_eq_getElem h2]; rfl
  rw [h3] at h hb
  simp only [Option.getD_some] at h
  omega
theorem int_back {X : List Int} (hU : U8s X) (hok : intOk X = true) (hl : X.length ≤ 8) : IsM (iv X X.length) X.length := by
  have h1 := intOk_ne hok
  have hp : pk (iv X X.length) (X.length - 1) := by
    unfold pk
    rw [rsI_qs, qs_iv hU _ _ (by omega), show X.length - (X.length - 1) = 1 by omega]
    have h := iv_bd hU 0
    simp only [Nat.pow_zero, Nat.zero_add] at h
    omega
  refine ⟨h1, hl, hp, (int_pI h1 hp).1 ?_⟩
  rw [pI_iv hU]; exact hok
end Go.Proofs.YtedoghjefdkmaaaGreat
/-
  Der: the bytes of a number that is not below 0.
-/
namespace Go.Proofs.YtedoghjefdkmaaaGreat
open Go.RowKit
/-- So many bytes it takes, whatever its size. -/
def IsU (n : Int) (m : Nat) : Prop := 1 ≤ m ∧ pk n (m - 1) ∧ (m = 1 ∨ ¬ pk n (m - 2))
theorem IsU.uniq {n : Int} {m m' : Nat} (h : IsU n m) (h' : IsU n m') : m = m' := by
  obtain ⟨a1, a3, a4⟩ := h
  obtain ⟨b1, b3, b4⟩ := h'
  rcases Nat.lt_trichotomy m m' with hlt | heq | hgt
  · rcases b4 with b4 | b4
    · omega
    · have := pk_more a3 (m' - 2 - (m - 1))
      rw [show m - 1 + (m' - 2 - (m - 1)) = m' - 2 by omega] at this
      exact absurd this b4
  · exact heq
  · rcases a4 with a4 | a4
    · omega
    · have := pk_more b3 (m - 2 - (m' - 1))
      rw [show m' - 1 + (m - 2 - (m' - 1)) = m - 2 by omega] at this
      exact absurd this a4
theorem qs_nat (N : Nat) : ∀ d, qs (N : Int) d = ((N / 2 ^ (8 * d) : Nat) : Int)
  | 0 => by simp [qs]
  | d + 1 => by
    show qs (N : Int) d / 256 = _
    rw [qs_nat N d, show 8 * (d + 1) = 8 * d + 8 by omega, Nat.pow_add, ← Nat.div_div_eq_div_mul]
    rfl
theorem pk_nat (N j : Nat) : pk (N : Int) j ↔ N < 2 ^ (8 * j + 7) := by
  unfold pk
  rw [rsI_qs, qs_nat]
  have h0 : N / 2 ^ (8 * j) / 128 = N / 2 ^ (8 * j + 7) := by rw [Nat.pow_add, ← Nat.div_div_eq_div_mul]
  have h1 : ((N / 2 ^ (8 * j) : Nat) : Int) / 128 = ((N / 2 ^ (8 * j + 7) : Nat) : Int) := by rw [← h0]; rfl
  rw [h1]
  have h2 : N / 2 ^ (8 * j + 7) = 0 ↔ N < 2 ^ (8 * j + 7) := by
    rw [Nat.div_eq_zero_iff]
    have : 0 < 2 ^ (8 * j + 7) := Nat.two_pow_pos _
    omega
  rw [← h2]
  obtain ⟨Q, hQ⟩ : ∃ Q, N / 2 ^ (8 * j + 7) = Q := ⟨_, rfl⟩
  rw [hQ]
  clear h0 h1 h2 hQ
  omega
theorem isU_bits (N : Nat) : IsU (N : Int) (bitLen N / 8 + 1) := by
  obtain ⟨l, hl⟩ : ∃ l, bitLen N = l := ⟨_, rfl⟩
  have hs := bitLen_spec N
  rw [hl] at hs ⊢
  refine ⟨by omega, ?_, ?_⟩
  · rw [pk_nat]
    exact Nat.lt_of_lt_of_le hs.1 (Nat.pow_le_pow_right (by decide) (by omega))
  · by_cases h : l / 8 + 1 = 1
    · exact .inl h
    · right
      rw [pk_nat]
      have h2 := hs.2 (by first | omega | (intro h0; subst h0; have : bitLen 0 = 0 := rfl; omega))
      have h3 : 2 ^ (8 * (l / 8 + 1 - 2) + 7) ≤ 2 ^ (l - 1) := Nat.pow_le_pow_right (by decide) (by omega)
      omega
/-- A limb's byte is the number's. -/
theorem limb_byte {A : List Int} (hu : U32s A) (i : Nat) : A.getD (i / 4) 0 / 2 ^ (i % 4 * 8) % 256 = qs (val A) i % 256 := by
  have h := getD_div A (i / 4) hu
  have h0 := val_nonneg hu
  have h1 := hu.at (i / 4)
  obtain ⟨N, hN⟩ := Int.eq_ofNat_of_zero_le h0
  obtain ⟨z, hz⟩ := Int.eq_ofNat_of_zero_le h1.1
  rw [hN, hz] at h
  rw [hN, hz, qs_nat]
  simp only [Int.toNat_natCast] at h
  have e : z / 2 ^ (i % 4 * 8) % 256 = N / 2 ^ (8 * i) % 256 := by
    rw [← h, show 8 * i = 32 * (i / 4) + i % 4 * 8 by omega, Nat.pow_add, ← Nat.div_div_eq_div_mul]
    obtain ⟨M, hM⟩ : ∃ M, N / 2 ^ (32 * (i / 4)) = M := ⟨_, rfl⟩
    rw [hM]
    have h4 : i % 4 = 0 ∨ i % 4 = 1 ∨ i % 4 = 2 ∨ i % 4 = 3 := by omega
    rcases h4 with h4 | h4 | h4 | h4 <;> rw [h4] <;> omega
  have e2 : (z : Int) / 2 ^ (i % 4 * 8) % 256 = ((z / 2 ^ (i % 4 * 8) % 256 : Nat) : Int) := by
    have h4 : i % 4 = 0 ∨ i % 4 = 1 ∨ i % 4 = 2 ∨ i % 4 = 3 := by omega
    rcases h4 with h4 | h4 | h4 | h4 <;> rw [h4] <;> rfl
  rw [e2, e]
  rfl
theorem high_byte {A : List Int} (hu : U32s A) (i : Nat) (hi : A.length ≤ i / 4) : qs (val A) i % 256 = 0 := by
  have h0 := val_nonneg hu
  have h1 := val_lt hu
  obtain ⟨N, hN⟩ := Int.eq_ofNat_of_zero_le h0
  rw [hN, pow32] at h1
  rw [hN, qs_nat]
  have h2 : N < 2 ^ (32 * A.length) := by exact_mod_cast h1
  have h3 : N < 2 ^ (8 * i) := Nat.lt_of_lt_of_le h2 (Nat.pow_le_pow_right (by decide) (by omega))
  rw [Nat.div_eq_of_lt h3]
  rfl
end Go.Proofs.YtedoghjefdkmaaaGreat
/-
  Der: numbers that are not below 0 there and back, without a walk.
-/
namespace Go.Proofs.YtedoghjefdkmaaaGreat
open Go.RowKit
theorem pow_256 (k : Nat) : 2 ^ (8 * k) = 256 ^ k := by rw [Nat.pow_mul]
theorem bv_pI (N m : Nat) : ∀ k, k ≤ m → bv ((pI (N : Int) m).reverse.take k) = ((N % 256 ^ k : Nat) : Int)
  | 0, _ => by simp [bv, Nat.mod_one]
  | k + 1, hk => by
    have hl : k < (pI (N : Int) m).reverse.length := by rw [List.length_reverse, pI_len]; omega
    rw [bv_take_succ _ _ hl, bv_pI N m k (by omega)]
    have e : (pI (N : Int) m).reverse.getD k 0 = ((N / 256 ^ k % 256 : Nat) : Int) := by
      rw [List.getD_eq_getElem?_getD, List.getElem?_reverse (by rw [pI_len]; omega), pI_len, ← List.getD_eq_getElem?_getD, pI_get _ _ _ (by omega), show m - 1 - (m - 1 - k) = k by omega, qs_nat, pow_256]
      rfl
    rw [e, Nat.pow_succ, Nat.mod_mul, Int.natCast_add, Int.natCast_mul, Int.natCast_pow]
    rfl
theorem bv_full (N m : Nat) (h : N < 256 ^ m) : bv (pI (N : Int) m).reverse = (N : Int) := by
  have := bv_pI N m m (Nat.le_refl _)
  rw [List.take_of_length_le (by rw [List.length_reverse, pI_len]; exact Nat.le_refl _), Nat.mod_eq_of_lt h] at this
  exact this
theorem pI_drop (n : Int) (m : Nat) : (pI n (m + 1)).drop 1 = pI n m := by
  refine List.ext_getElem (by rw [List.length_drop, pI_len, pI_len]; omega) (fun i h1 h2 => ?_)
  rw [pI_len] at h2
  rw [List.getElem_drop]
  have a := pI_get n (m + 1) (1 + i) (by omega)
  have b := pI_get n m i h2
  rw [List.getD_eq_getElem?_getD, List.getElem?_eq_getElem (by rw [pI_len]; omega)] at a b
  rw [show m + 1 - 1 - (1 + i) = m - 1 - i by omega] at a
  exact a.trans b.symm
theorem uint_there {N m : Nat} (h : IsU (N : Int) m) (hm : m ≤ 2048) : uintS (pI (N : Int) m) = (lim N, 0) := by
  have hok := (int_pI h.1 h.2.1).2 h.2.2
  obtain ⟨d, rfl⟩ : ∃ d, m = d + 1 := ⟨m - 1, by have := h.1; omega⟩
  have hN := (pk_nat N _).1 h.2.1
  rw [Nat.add_sub_cancel, Nat.pow_add, pow_256] at hN
  have hq : N / 256 ^ d < 128 := by
    rw [Nat.div_lt_iff_lt_mul (Nat.pow_pos (by decide))]
    rw [Nat.mul_comm]; exact hN
  obtain ⟨Q, hQ⟩ : ∃ Q, N / 256 ^ d = Q := ⟨_, rfl⟩
  rw [hQ] at hq
  have h0 : (pI (N : Int) (d + 1)).getD 0 0 = (Q : Int) := by
    rw [pI_get _ _ _ (by omega), show d + 1 - 1 - 0 = d by omega, qs_nat, pow_256, hQ]
    omega
  unfold uintS
  rw [if_neg (by rw [hok]; simp), h0, if_neg (by omega)]
  by_cases hz : Q = 0
  · have hlt : N < 256 ^ d := by
      rw [← hQ, Nat.div_eq_zero_iff] at hz
      have : 0 < 256 ^ d := Nat.pow_pos (by decide)
      omega
    rw [if_pos (by omega), pI_drop]
    unfold fromS
    rw [if_neg (by rw [pI_len]; omega), bv_full N d hlt, Int.toNat_natCast]
  · have hlt : N < 256 ^ (d + 1) := by
      rw [Nat.pow_succ]
      have : 0 < 256 ^ d := Nat.pow_pos (by decide)
      omega
    rw [if_neg (by omega)]
    unfold fromS
    rw [if_neg (by rw [pI_len]; omega), bv_full N (d + 1) hlt, Int.toNat_natCast]
end Go.Proofs.YtedoghjefdkmaaaGreat
/-
  Der: any number in bytes of seven bits.
-/
namespace Go.Proofs.YtedoghjefdkmaaaGreat
open Go.RowKit
/-- A group of seven bits that another follows. -/
def gr (n j : Nat) : Int := ((n / 128 ^ j % 128 + 128 : Nat) : Int)
/-- The first i of the groups k, k - 1, .. -/
def tp (n k : Nat) : Nat → List Int
  | 0 => []
  | i + 1 => tp n k i ++ [gr n (k - i)]
def sev (k n : Nat) : List Int := tp n k k ++ [((n % 128 : Nat) : Int)]
theorem tp_len (n k : Nat) : ∀ i, (tp n k i).length = i
  | 0 => rfl
  | i + 1 => by show (tp n k i ++ [_]).length = _; rw [List.length_append, tp_len n k i]; rfl
theorem or_128 (x : Int) (h : U8 x) : bits .or .u8 x 128 = x % 128 + 128 := by
  obtain ⟨h0, h1⟩ := h
  obtain ⟨k, rfl⟩ := Int.eq_ofNat_of_zero_le h0
  have : ∀ y : Fin 256, bits .or .u8 ((y : Nat) : Int) 128 = ((y : Nat) : Int) % 128 + 128 := by decide +kernel
  exact this ⟨k, by omega⟩
theorem and_127w (z : Int) (h0 : 0 ≤ z) (h1 : z < 18446744073709551616) : bits .and .u64 z 127 = z % 128 := by go_bits2
theorem wrapU8 (z : Int) (h0 : 0 ≤ z) (h1 : z < 256) : IntKind.u8.wrap z = z := by rw [IntKind.wrap_u8]; omega
theorem div_sev (n j s : Nat) (hs : s = 7 * j) : (n : Int) / 2 ^ s = ((n / 128 ^ j : Nat) : Int) := by
  subst hs
  rw [Int.pow_mul]
  simp
theorem Row.drew {k : IntKind} {e : TypeId} {B : Nat} {w : World} {v : Value} {xs : List Int} (h : Row k e B w v xs) : Row k e B w.drew v xs :=
  h.below ⟨rfl, rfl, rfl, Nat.le_refl _, fun _ _ => rfl⟩
set_option maxRecDepth 20000 in
set_option maxHeartbeats 2000000 in
theorem sevens_any {w : World} (B : Nat) (v : Value) (X : List Int) (n k : Nat) (hr : Row .u8 5 B w v X) (hB : B ≤ w.heap.size) (hk : n / 128 ^ k < 128) (hk1 : ∀ j, j < k → 128 ≤ n / 128 ^ j) (hk8 : k ≤ 8) (hn : n < 9223372036854775808) (hX : X.length ≤ 100000000) :
    Calls Tryz.prog 163 #[v, .int .u64 n] w fun e w' => ∃ r, e = .returned r ∧ Row .u8 5 B w' r (X ++ sev k n) ∧ Below B w w' := by
  have HR : Hid (Row .u8 5 B w v X) := hr
  have HK : Hid (n / 128 ^ k < 128 ∧ ∀ j, j < k → 128 ≤ n / 128 ^ j) := ⟨hk, hk1⟩
  clear hr hk hk1
  have n0 : (0 : Int) ≤ (n : Int) := by omega
  have a127 := and_127w (n : Int) n0 (by omega)
  have w127 : IntKind.u8.wrap ((n : Int) % 128) = (n : Int) % 128 := wrapU8 _ (by omega) (by omega)
  go_enter Tryz.func163, Tryz.ntmps163
  go_wp2_with fail
  go_loopw [5] (fun sv wr => ∃ j s : Nat, sv = .int .i64 s ∧ s = 7 * j ∧ j ≤ k ∧ w = wr) (fun sv _ => 7 * k - (intOf sv).toNat)
  case atStart => exact ⟨0, 0, rfl, rfl, by omega, rfl⟩
  case round =>
    obtain ⟨j, s, rfl, hs, hj, rfl⟩ := hrel
    have HS : Hid (s = 7 * j) := hs
    obtain ⟨q, hq⟩ : ∃ q, n / 128 ^ j = q := ⟨_, rfl⟩
    have HQ : Hid (n / 128 ^ j = q) := hq
    have hd := div_sev n j s hs
    rw [hq] at hd
    clear hq
    have s0 : (s : Int) ≤ 56 := by omega
    clear hs
    by_cases hlt : j < k
    · have hge : (128 : Int) ≤ (q : Int) := by have := HK.out.2 j hlt; rw [HQ.out] at this; omega
      go_wp2
      go_roundw
      case rel => exact ⟨j + 1, s + 7, by go_num, by have := HS.out; omega, by omega, trivial⟩
      case measure => have := HS.out; simp [intOf]; omega
    · obtain rfl : j = k := by omega
      have hge : ¬ (128 : Int) ≤ (q : Int) := by have := HK.out.1; rw [HQ.out] at this; omega
      go_wp2
      go_loopw [0, 5] (fun bv sv wr => ∃ (i s : Nat) (b0 : Value), b0 = bv ∧ sv = .int .i64 s ∧ s + 7 * i = 7 * j ∧ Row .u8 5 B wr b0 (X ++ tp n j i) ∧ Below B w wr) (fun _ sv _ => (intOf sv).toNat)
      case atStart => exact ⟨0, s, _, rfl, rfl, by have := HS.out; omega, by simpa [tp] using HR.out, Below.refl _ _⟩
      case round =>
        clear hd s0 hge
        obtain ⟨i, s', b0, rfl, rfl, hs', hr, hb⟩ := hrel
        have H1 : Hid (Row .u8 5 B wr b0 (X ++ tp n j i) ∧ Below B w wr ∧ s' + 7 * i = 7 * j) := ⟨hr, hb, hs'⟩
        by_cases h0 : 0 < s'
        · have h0I : (0 : Int) < (s' : Int) := by omega
          have h7 : 7 ≤ s' := by omega
          obtain ⟨q', hq'⟩ : ∃ q, n / 128 ^ (j - i) = q := ⟨_, rfl⟩
          have hd := div_sev n (j - i) s' (by omega)
          rw [hq'] at hd
          have s0 : (s' : Int) ≤ 56 := by omega
          obtain ⟨x, hx⟩ : ∃ x : Int, IntKind.u8.wrap (q' : Int) = x := ⟨_, rfl⟩
          have ho : bits .or .u8 x 128 = gr n (j - i) := by
            rw [IntKind.wrap_u8] at hx
            rw [or_128 x ⟨by omega, by omega⟩]
            unfold gr
            rw [hq']
            omega
          obtain ⟨y, hy⟩ : ∃ y : Int, gr n (j - i) = y := ⟨_, rfl⟩
          have HY : Hid (gr n (j - i) = y) := hy
          rw [hy] at ho
          clear hq' hy hr hb hs'
          go_wp2_with (at_builtin; refine wpList_ap rfl (.tmp 16) (.tmp 22) 25 25 rfl .u8 5 1 Tryz.und8 Tryz.info8 (by decide) B _ (X ++ tp n j i) rfl (H1.out.1.alloc _) _ [y] rfl (src_sl Tryz.und8 (new1 y)) (by have := tp_len n j i; have := H1.out.2.2; simp; omega) (by have := H1.out.2.1.size; simp; omega) ?_; intro v1 w1 hr hg)
          have hb1 : Below B w w1 := (H1.out.2.1.trans ((al1 _).mono (by have := H1.out.2.1.size; omega))).trans (hg.below (H1.out.1.alloc _) (by have := H1.out.2.1.size; simp; omega))
          have hr' : Row .u8 5 B w1 v1 (X ++ tp n j (i + 1)) := by
            show Row _ _ _ _ _ (X ++ (tp n j i ++ [gr n (j - i)]))
            rw [HY.out, ← List.append_assoc]; exact hr
          have H2 : Hid (Row .u8 5 B w1 v1 (X ++ tp n j (i + 1)) ∧ Below B w w1) := ⟨hr', hb1⟩
          clear hr hg hb1 hr'
          go_roundw
          case rel => exact ⟨i + 1, s' - 7, _, rfl, by go_num, by have := H1.out.2.2; omega, H2.out.1, H2.out.2⟩
          case measure => simp [intOf]; omega
        · have h0I : ¬ (0 : Int) < (s' : Int) := by omega
          obtain rfl : i = j := by omega
          obtain ⟨y, hy⟩ : ∃ y : Int, (n : Int) % 128 = y := ⟨_, rfl⟩
          have HY : Hid ((n : Int) % 128 = y) := hy
          rw [hy] at a127 w127
          clear hr hb hs' hy
          go_wp2_with (at_builtin; refine wpList_ap rfl (.tmp 24) (.tmp 28) 25 25 rfl .u8 5 1 Tryz.und8 Tryz.info8 (by decide) B _ (X ++ tp n i i) rfl (H1.out.1.alloc _) _ [y] rfl (src_sl Tryz.und8 (new1 y)) (by have := tp_len n i i; simp; omega) (by have := H1.out.2.1.size; simp; omega) ?_; intro v1 w1 hr hg)
          have hb1 : Below B w w1 := (H1.out.2.1.trans ((al1 _).mono (by have := H1.out.2.1.size; omega))).trans (hg.below (H1.out.1.alloc _) (by have := H1.out.2.1.size; simp; omega))
          go_ret
          refine ⟨_, rfl, ?_, hb1⟩
          unfold sev
          rw [← List.append_assoc]
          have e : ((n % 128 : Nat) : Int) = y := by have := HY.out; omega
          rw [e]; exact hr
end Go.Proofs.YtedoghjefdkmaaaGreat
/-
  Der: any length; any head.
-/
namespace Go.Proofs.YtedoghjefdkmaaaGreat
open Go.RowKit
def by8 (n j : Nat) : Int := ((n / 256 ^ j % 256 : Nat) : Int)
/-- The first i of the bytes c - 1, c - 2, .. -/
def tb (n c : Nat) : Nat → List Int
  | 0 => []
  | i + 1 => tb n c i ++ [by8 n (c - 1 - i)]
theorem tb_len (n c : Nat) : ∀ i, (tb n c i).length = i
  | 0 => rfl
  | i + 1 => by show (tb n c i ++ [_]).length = _; rw [List.length_append, tb_len n c i]; rfl
def lenB (n c : Nat) : List Int := if n < 128 then [(n : Int)] else (128 + (c : Int)) :: tb n c c
theorem div_by8 (n j s : Nat) (hs : s = 8 * j) : (n : Int) / 2 ^ s = ((n / 256 ^ j : Nat) : Int) := by
  subst hs
  rw [Int.pow_mul]
  simp
set_option maxRecDepth 20000 in
set_option maxHeartbeats 2000000 in
theorem length_any {w : World} (n c : Nat) (hc : n / 256 ^ c = 0) (hc1 : ∀ j, j < c → 0 < n / 256 ^ j) (hc8 : c ≤ 7) (hn : n < 9223372036854775808) :
    Calls Tryz.prog 149 #[.int .i64 n] w fun e w' => ∃ r, e = .returned r ∧ Row .u8 5 w.heap.size w' r (lenB n c) ∧ Below w.heap.size w w' := by
  have HC : Hid (n / 256 ^ c = 0 ∧ ∀ j, j < c → 0 < n / 256 ^ j) := ⟨hc, hc1⟩
  clear hc hc1
  by_cases h1 : n < 128
  · have HL : Hid (lenB n c = [(n : Int)]) := by show _ = _; unfold lenB; rw [if_pos h1]
    have i1 : (n : Int) < 128 := by omega
    have i2 : IntKind.u8.wrap (n : Int) = (n : Int) := wrapU8 _ (by omega) (by omega)
    go_enter Tryz.func149, Tryz.ntmps149
    go_wp2
    go_ret
    rw [HL.out]
    exact ⟨_, rfl, (Row.arr (S := [_]) (arr_nw rfl rfl) (Nat.le_refl _) (by simp [maxLen])), al1 _⟩
  · have HL : Hid (lenB n c = (128 + (c : Int)) :: tb n c c) := by show _ = _; unfold lenB; rw [if_neg h1]
    have i1 : ¬ (n : Int) < 128 := by omega
    have i2 : IntKind.u8.wrap (c : Int) = (c : Int) := wrapU8 _ (by omega) (by omega)
    have i3 : IntKind.u8.wrap (128 + (c : Int)) = 128 + (c : Int) := wrapU8 _ (by omega) (by omega)
    go_enter Tryz.func149, Tryz.ntmps149
    go_wp2_with fail
    go_loopw [3, 4] (fun cv rv wr => ∃ j q : Nat, cv = .int .i64 j ∧ rv = .int .i64 q ∧ n / 256 ^ j = q ∧ j ≤ c ∧ w = wr) (fun cv _ _ => c - (intOf cv).toNat)
    case atStart => exact ⟨0, n, rfl, rfl, by simp, by omega, rfl⟩
    case round =>
      obtain ⟨j, q, rfl, rfl, hq, hj, rfl⟩ := hrel
      have HQ : Hid (n / 256 ^ j = q) := hq
      clear hq
      by_cases hlt : j < c
      · have hg : (0 : Int) < (q : Int) := by have := HC.out.2 j hlt; rw [HQ.out] at this; omega
        go_wp2
        go_roundw
        case rel => exact ⟨j + 1, q / 256, by go_num, by go_num, by rw [Nat.pow_succ, ← Nat.div_div_eq_div_mul, HQ.out], by omega, trivial⟩
        case measure => simp [intOf]; omega
      · obtain rfl : j = c := by omega
        have hg : ¬ (0 : Int) < (q : Int) := by have := HC.out.1; rw [HQ.out] at this; omega
        go_wp2
        go_loopw [5, 24] (fun bv iv wr => ∃ (i : Nat) (b0 : Value), b0 = bv ∧ iv = .int .i64 i ∧ i ≤ j ∧ Row .u8 5 w.heap.size wr b0 ((128 + (j : Int)) :: tb n j i) ∧ Below w.heap.size w wr) (fun _ iv _ => j - (intOf iv).toNat)
        case atStart => exact ⟨0, _, rfl, rfl, by omega, (Row.arr (S := [_]) (arr_nw rfl rfl) (Nat.le_refl _) (by simp [maxLen])), al1 _⟩
        case round =>
          obtain ⟨i, b0, rfl, rfl, hi, hr, hb⟩ := hrel
          have H1 : Hid (Row .u8 5 w.heap.size wr b0 ((128 + (j : Int)) :: tb n j i) ∧ Below w.heap.size w wr) := ⟨hr, hb⟩
          clear hr hb hg
          by_cases hlt : i < j
          · have l1 : (i : Int) < (j : Int) := by omega
            obtain ⟨c1, hc1⟩ : ∃ c1, j = c1 + 1 := ⟨j - 1, by omega⟩
            obtain ⟨d, hd1⟩ : ∃ d, c1 = d + i := ⟨c1 - i, by omega⟩
            have e1 : (j : Int) - 1 = (c1 : Int) := by omega
            have e2 : (c1 : Int) - (i : Int) = (d : Int) := by omega
            have e3 : (d : Int) ≤ 7 := by omega
            have e4 : (c1 : Int) ≤ 7 := by omega
            have HJ : Hid (j = d + i + 1) := by show _ = _; omega
            clear hc1 hd1
            have hd := div_by8 n d (8 * d) rfl
            obtain ⟨q', hq'⟩ : ∃ q, n / 256 ^ d = q := ⟨_, rfl⟩
            rw [hq'] at hd
            obtain ⟨y, hy⟩ : ∃ y : Int, (q' : Int) % 256 = y := ⟨_, rfl⟩
            have hy2 : IntKind.u8.wrap (q' : Int) = y := by rw [IntKind.wrap_u8]; exact hy
            have HY : Hid (by8 n d = y) := by
              show _ = _
              unfold by8
              rw [hq']
              omega
            clear hq'
            go_wp2_with (at_builtin; refine wpList_ap rfl (.tmp 27) (.tmp 36) 25 25 rfl .u8 5 1 Tryz.und8 Tryz.info8 (by decide) w.heap.size _ ((128 + (j : Int)) :: tb n j i) rfl (H1.out.1.alloc _) _ [y] rfl (src_sl Tryz.und8 (new1 y)) (by have := tb_len n j i; simp; omega) (by have := H1.out.2.size; simp; omega) ?_; intro v1 w1 hr hg)
            have hb1 : Below w.heap.size w w1 := (H1.out.2.trans ((al1 _).mono H1.out.2.size)).trans (hg.below (H1.out.1.alloc _) (by have := H1.out.2.size; simp; omega))
            have hr' : Row .u8 5 w.heap.size w1 v1 ((128 + (j : Int)) :: tb n j (i + 1)) := by
              have e : tb n j (i + 1) = tb n j i ++ [by8 n (j - 1 - i)] := rfl
              rw [e, show j - 1 - i = d by have := HJ.out; omega, HY.out]
              exact hr
            have H2 : Hid (Row .u8 5 w.heap.size w1 v1 ((128 + (j : Int)) :: tb n j (i + 1)) ∧ Below w.heap.size w w1) := ⟨hr', hb1⟩
            clear hr hg hb1 hr'
            go_roundw
            case rel => exact ⟨i + 1, _, rfl, by go_num, by omega, H2.out.1, H2.out.2⟩
            case measure => simp [intOf]; omega
          · obtain rfl : i = j := by omega
            have l1 : ¬ (i : Int) < (i : Int) := by omega
            go_wp2
            go_ret
            rw [HL.out]
            exact ⟨_, rfl, H1.out.1, H1.out.2⟩
end Go.Proofs.YtedoghjefdkmaaaGreat
/-
  Der: any head.
-/
namespace Go.Proofs.YtedoghjefdkmaaaGreat
open Go.RowKit
def frst (class_ : Int) (cons : Bool) : Int := class_ * 64 + (if cons then 32 else 0)
def headB (class_ : Int) (cons : Bool) (tag k : Nat) : List Int := if tag < 31 then [frst class_ cons + tag] else (frst class_ cons + 31) :: sev k tag
theorem or_low (a t : Nat) (ha : a < 8) (ht : t < 32) : bits .or .u8 (32 * (a : Int)) (t : Int) = 32 * (a : Int) + t := by
  have : ∀ (a : Fin 8) (t : Fin 32), bits .or .u8 (32 * ((a : Nat) : Int)) ((t : Nat) : Int) = 32 * ((a : Nat) : Int) + ((t : Nat) : Int) := by decide +kernel
  exact this ⟨a, ha⟩ ⟨t, ht⟩
theorem or_31 (a : Nat) (ha : a < 8) : bits .or .u8 (32 * (a : Int)) 31 = 32 * (a : Int) + 31 := or_low a 31 ha (by decide)
theorem or_c0 : bits .or .u8 0 32 = 32 := by decide +kernel
theorem or_c1 : bits .or .u8 64 32 = 96 := by decide +kernel
theorem or_c2 : bits .or .u8 128 32 = 160 := by decide +kernel
theorem or_c3 : bits .or .u8 192 32 = 224 := by decide +kernel
set_option maxRecDepth 20000 in
set_option maxHeartbeats 4000000 in
theorem head_any {w : World} (c : Int) (cons : Bool) (t k : Nat) (h0 : 0 ≤ c) (h3 : c ≤ 3) (hk : t / 128 ^ k < 128) (hk1 : ∀ j, j < k → 128 ≤ t / 128 ^ j) (hk8 : k ≤ 8) (ht : t ≤ 268435455) :
    Calls Tryz.prog 148 #[.int .i64 c, .int .i64 t, .bool cons] w fun e w' => ∃ r, e = .returned r ∧ Row .u8 5 w.heap.size w' r (headB c cons t k) ∧ Below w.heap.size w w' := by
  have HK : Hid (t / 128 ^ k < 128 ∧ ∀ j, j < k → 128 ≤ t / 128 ^ j) := ⟨hk, hk1⟩
  clear hk hk1
  obtain ⟨a, ha, hf⟩ : ∃ a : Nat, a < 8 ∧ frst c cons = 32 * (a : Int) := by
    unfold frst
    cases cons
    · exact ⟨(2 * c).toNat, by omega, by simp; omega⟩
    · exact ⟨(2 * c + 1).toNat, by omega, by simp; omega⟩
  have o0 := or_c0
  have o1 := or_c1
  have o2 := or_c2
  have o3 := or_c3
  have hc : c = 0 ∨ c = 1 ∨ c = 2 ∨ c = 3 := by omega
  by_cases hlt : t < 31
  · have HB : Hid (headB c cons t k = [32 * (a : Int) + t]) := by show _ = _; unfold headB; rw [if_pos hlt, hf]
    have ho := or_low a t ha (by omega)
    have w1 : IntKind.u8.wrap (t : Int) = (t : Int) := wrapU8 _ (by omega) (by omega)
    have l1 : (t : Int) < 31 := by omega
    rcases hc with rfl | rfl | rfl | rfl <;> cases cons
    all_goals
      have hf' := hf
      unfold frst at hf'
      simp at hf'
      obtain ⟨y, hy⟩ : ∃ y : Int, 32 * (a : Int) + t = y := ⟨_, rfl⟩
      rw [hy] at HB ho
      rw [← hf'] at ho
      clear hf hf' ha hy
      go_enter Tryz.func148, Tryz.ntmps148
      go_wp2
      go_ret
      rw [HB.out]
      exact ⟨_, rfl, (Row.arr (S := [_]) (arr_nw rfl rfl) (Nat.le_refl _) (by simp [maxLen])), al1 _⟩
  · have HB : Hid (headB c cons t k = [32 * (a : Int) + 31] ++ sev k t) := by show _ = _; unfold headB; rw [if_neg hlt, hf]; rfl
    have ho := or_31 a ha
    have w1 : IntKind.u64.wrap (t : Int) = (t : Int) := by rw [IntKind.wrap_u64]; omega
    have l1 : ¬ (t : Int) < 31 := by omega
    rcases hc with rfl | rfl | rfl | rfl <;> cases cons
    all_goals
      have hf' := hf
      unfold frst at hf'
      simp at hf'
      obtain ⟨y, hy⟩ : ∃ y : Int, 32 * (a : Int) + 31 = y := ⟨_, rfl⟩
      rw [hy] at HB ho
      rw [← hf'] at ho
      clear hf hf' ha hy
      go_enter Tryz.func148, Tryz.ntmps148
      go_wp2_with fail
      refine (sevens_any w.heap.size _ [_] t k (Row.arr (S := [_]) (arr_nw rfl rfl) (Nat.le_refl _) (by simp [maxLen])) (by simp) HK.out.1 HK.out.2 hk8 (by omega) (by simp)).mono ?_
      rintro e w2 ⟨r, rfl, hr, hb⟩
      have H2 : Hid (Row .u8 5 w.heap.size w2 r (headB _ _ t k) ∧ Below w.heap.size w w2) := ⟨by rw [HB.out]; exact hr, (al1 _).trans hb⟩
      clear hr hb
      go_wp2
      go_ret
      exact ⟨_, rfl, H2.out.1, H2.out.2⟩
end Go.Proofs.YtedoghjefdkmaaaGreat
