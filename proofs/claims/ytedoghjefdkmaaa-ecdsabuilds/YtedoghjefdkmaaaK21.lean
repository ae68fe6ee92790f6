/-
  Ecdsa: Build.
-/
import Derived.Laws.BytesArg
import Derived.Lib.Strings
import Derived.OpenShut
import Derived.Test.YtedoghjefdkmaaaK20
namespace Go.Proofs.Ytedoghjefdkmaaa
open Go.RowKit
theorem enc2_u8 {t : Nat} {co : Bool} {d : List Int} (ht : t = 2 ∨ t = 16) (hd : U8s d) (hl : d.length < 65536) : U8s (enc2 t co d) :=
  encB_u8 0 co t 0 _ d (by rcases ht with rfl | rfl <;> rfl) (lenC_ok hl).2.2 hd
theorem lenC_le (n : Nat) : lenC n ≤ 2 := by unfold lenC; split; · omega
                                             split <;> omega
theorem enc2_len {t : Nat} {co : Bool} {d : List Int} (ht : t < 31) : (enc2 t co d).length ≤ d.length + 4 := by
  unfold enc2 encB
  have := lenC_le d.length
  rw [List.length_append, List.length_append, headB_len, lenB_len, if_pos ht]
  split <;> omega
def layE (A B : List Int) : Int := if A.length ≤ 512 ∧ B.length ≤ 512 then 0 else 1
def LayAns (A B : List Int) (w w' : World) (e : Ending) : Prop := GiveUp (layE A B) e (∃ r, e = .returned r ∧ Sl .u8 w' r (sigB A B)) ∧ Below w.heap.size w w'
theorem sig_u8 {X Y : List Int} (hX : U8s X) (hY : U8s Y) : U8s (X ++ Y) := fun z hz => by rcases List.mem_append.1 hz with h | h; exact hX z h; exact hY z h
set_option maxRecDepth 20000 in
set_option maxHeartbeats 4000000 in
theorem lay_any {w : World} (v u : Value) (A B : List Int) (hA : Sl .u32 w v A) (hB : Sl .u32 w u B) (uA : U32s A) (uB : U32s B) (lA : A.length ≤ 600) (lB : B.length ≤ 600) :
    Calls Try.prog 26 #[v, u] w fun e w' => LayAns A B w w' e := by
  have HLn : Hid (A.length ≤ 600 ∧ B.length ≤ 600) := ⟨lA, lB⟩
  have HX : Hid (Sl .u32 w v A ∧ Sl .u32 w u B ∧ U32s A ∧ U32s B ∧ A.length ≤ 600 ∧ B.length ≤ 600) := ⟨hA, hB, uA, uB, lA, lB⟩
  obtain ⟨a, c, rfl, hc, _⟩ := hA
  obtain ⟨a', c', rfl, hc', _⟩ := hB
  obtain ⟨n, hn⟩ : ∃ n, A.length = n := ⟨_, rfl⟩
  obtain ⟨n', hn'⟩ : ∃ n, B.length = n := ⟨_, rfl⟩
  have HL : Hid (layE A B = if n ≤ 512 ∧ n' ≤ 512 then 0 else 1) := by show layE A B = _; unfold layE; rw [hn, hn']
  rw [hn] at HX
  rw [hn'] at HX
  rw [hn, hn']
  clear hc hc' uA uB lA lB hn hn'
  by_cases h1 : n ≤ 512
  · have g1 : (n : Int) ≤ 512 := by omega
    by_cases h2 : n' ≤ 512
    · have g2 : (n' : Int) ≤ 512 := by omega
      replace HL : Hid (layE A B = 0) := HL.out.trans (if_pos ⟨h1, h2⟩)
      go_enter Try.func26, Try.ntmps26
      go_wp2_with fail
      refine (demand_yes 1).mono ?_
      rintro e w1 ⟨rfl, rfl⟩
      go_wp2_with fail
      refine (PutUint_any _ A HX.out.1 HX.out.2.2.1 HLn.out.1).mono ?_
      rintro e w2 ⟨r1, m1, hm1, hm1', rfl, hs1, hb2⟩
      obtain ⟨a1, n1, c1, rfl⟩ := sl_is hs1
      rw [numB_of HX.out.2.2.1 hm1] at hs1
      have H2 : Hid (Sl .u8 w2 (.slice a1 n1 c1) (numB A) ∧ U8s (numB A) ∧ (numB A).length ≤ 2401 ∧ Below w.heap.size w w2) := ⟨hs1, pI_u8 _ _, by rw [← numB_of HX.out.2.2.1 hm1, pI_len]; exact hm1', hb2⟩
      clear hm1 hm1' hs1 hb2
      go_wp2_with fail
      refine (put_any 2 (.inl rfl) false (some ⟨w2.heap.size, 0, none⟩) 1 1 [.slice a1 n1 c1] [numB A] (lists1 (T := 22) (by exact Blk.new _ w2 _) (sl_alloc H2.out.1 _) H2.out.2.1) (by have := H2.out.2.2.1; simp; omega) (by omega)).mono ?_
      rintro e w3 ⟨p1, rfl, hp1, hb3⟩
      rw [show [numB A].flatten = numB A by simp] at hp1
      obtain ⟨pa1, pc1, hpe⟩ := hp1.ne
      obtain ⟨pn1, hpn⟩ : ∃ x, (enc2 2 false (numB A)).length = x := ⟨_, rfl⟩
      rw [hpn] at hpe
      subst hpe
      have H3 : Hid (Sl .u8 w3 (.slice pa1 pn1 pc1) (enc2 2 false (numB A)) ∧ U8s (enc2 2 false (numB A)) ∧ (enc2 2 false (numB A)).length ≤ 2405 ∧ Below w.heap.size w w3) := ⟨hp1.sl, enc2_u8 (.inl rfl) H2.out.2.1 (by have := H2.out.2.2.1; omega), Nat.le_trans (enc2_len (by decide)) (by have := H2.out.2.2.1; omega), below_via (below_via H2.out.2.2.2 (al1 _) (Nat.le_refl _)) hb3 (Nat.le_refl _)⟩
      clear hp1 hb3 hpn H2
      go_wp2_with fail
      refine (PutUint_any _ B (below_sl H3.out.2.2.2 HX.out.2.1) HX.out.2.2.2.1 HLn.out.2).mono ?_
      rintro e w4 ⟨r2, m2, hm2, hm2', rfl, hs2, hb4⟩
      obtain ⟨a2, n2, c2, rfl⟩ := sl_is hs2
      rw [numB_of HX.out.2.2.2.1 hm2] at hs2
      have H4 : Hid (Sl .u8 w4 (.slice a2 n2 c2) (numB B) ∧ U8s (numB B) ∧ (numB B).length ≤ 2401 ∧ Below w3.heap.size w3 w4) := ⟨hs2, pI_u8 _ _, by rw [← numB_of HX.out.2.2.2.1 hm2, pI_len]; exact hm2', hb4⟩
      clear hm2 hm2' hs2 hb4
      go_wp2_with fail
      refine (put_any 2 (.inl rfl) false (some ⟨w4.heap.size, 0, none⟩) 1 1 [.slice a2 n2 c2] [numB B] (lists1 (T := 22) (by exact Blk.new _ w4 _) (sl_alloc H4.out.1 _) H4.out.2.1) (by have := H4.out.2.2.1; simp; omega) (by omega)).mono ?_
      rintro e w5 ⟨p2, rfl, hp2, hb5⟩
      rw [show [numB B].flatten = numB B by simp] at hp2
      obtain ⟨pa2, pc2, hpe⟩ := hp2.ne
      obtain ⟨pn2, hpn⟩ : ∃ x, (enc2 2 false (numB B)).length = x := ⟨_, rfl⟩
      rw [hpn] at hpe
      subst hpe
      have H5 : Hid (Sl .u8 w5 (.slice pa2 pn2 pc2) (enc2 2 false (numB B)) ∧ U8s (enc2 2 false (numB B)) ∧ (enc2 2 false (numB B)).length ≤ 2405 ∧ Below w3.heap.size w3 w5) := ⟨hp2.sl, enc2_u8 (.inl rfl) H4.out.2.1 (by have := H4.out.2.2.1; omega), Nat.le_trans (enc2_len (by decide)) (by have := H4.out.2.2.1; omega), below_via (below_via H4.out.2.2.2 (al1 _) (Nat.le_refl _)) hb5 (Nat.le_refl _)⟩
      clear hp2 hb5 hpn H4
      go_wp2_with fail
      refine (put_any 16 (.inr rfl) true (some ⟨w5.heap.size, 0, none⟩) 2 2 [.slice pa1 pn1 pc1, .slice pa2 pn2 pc2] [enc2 2 false (numB A), enc2 2 false (numB B)] (lists2 (T := 22) (by exact Blk.new _ w5 _) (sl_alloc (below_sl H5.out.2.2.2 H3.out.1) _) H3.out.2.1 (sl_alloc H5.out.1 _) H5.out.2.1) (by have := H3.out.2.2.1; have := H5.out.2.2.1; simp; omega) (by omega)).mono ?_
      rintro e w6 ⟨p3, rfl, hp3, hb6⟩
      rw [show [enc2 2 false (numB A), enc2 2 false (numB B)].flatten = enc2 2 false (numB A) ++ enc2 2 false (numB B) by simp] at hp3
      have H6 : Hid (Sl .u8 w6 p3 (sigB A B) ∧ Below w.heap.size w w6) := ⟨hp3.sl, below_via (below_via (below_via H3.out.2.2.2 H5.out.2.2.2 (Nat.le_refl _)) (al1 _) (Nat.le_refl _)) hb6 (Nat.le_refl _)⟩
      clear hp3 hb6
      go_wp2
      go_ret
      refine ⟨?_, H6.out.2⟩
      rw [HL.out]
      exact GiveUp.yes rfl ⟨_, rfl, H6.out.1⟩
    · have g2 : ¬ (n' : Int) ≤ 512 := by omega
      replace HL : Hid (layE A B = 1) := HL.out.trans (if_neg (by omega))
      go_enter Try.func26, Try.ntmps26
      go_wp2_with fail
      refine (demand_no 1).mono ?_
      rintro e w1 ⟨rfl, rfl⟩
      go_wp2
      refine ⟨rfl, ?_, Below.refl _ _⟩
      rw [HL.out]; exact GiveUp.no (by decide)
  · have g1 : ¬ (n : Int) ≤ 512 := by omega
    replace HL : Hid (layE A B = 1) := HL.out.trans (if_neg (by omega))
    go_enter Try.func26, Try.ntmps26
    go_wp2_with fail
    refine (demand_no 1).mono ?_
    rintro e w1 ⟨rfl, rfl⟩
    go_wp2
    refine ⟨rfl, ?_, Below.refl _ _⟩
    rw [HL.out]; exact GiveUp.no (by decide)
def BuildPost (A B : List Int) (w0 : World) (b2 : Nat) (n : Int) (w : World) : Prop :=
  n = layE A B ∧ Below w0.heap.size w0 w ∧ ∃ a2 n2 c2, Blk 22 w b2 [.slice a2 n2 c2] ∧ Sl .u8 w (.slice a2 n2 c2) (if layE A B = 0 then sigB A B else [])
set_option maxRecDepth 20000 in
set_option maxHeartbeats 4000000 in
theorem build1_any {w w0 : World} (v u : Value) (A B : List Int) (b0 b1 b2 b4 : Nat) (h0 : Blk 25 w b0 [v]) (h1 : Blk 25 w b1 [u]) (h2 : Blk 22 w b2 [.slice none 0 0]) (h4 : Blk 26 w b4 [.int .i64 0])
    (h24 : b4 ≠ b2) (hb2 : w0.heap.size ≤ b2) (hw : Below w0.heap.size w0 w) (hv : Sl .u32 w v A) (hu : Sl .u32 w u B) (uA : U32s A) (uB : U32s B) (lA : A.length ≤ 600) (lB : B.length ≤ 600) :
    Calls Try.prog 25 #[.pointer (some ⟨b0, 0, none⟩), .pointer (some ⟨b1, 0, none⟩), .pointer (some ⟨b2, 0, none⟩)] w fun e w1 =>
      Blk 26 w1 b4 [.int .i64 0] ∧ ((e = .returned (.tuple #[]) ∧ BuildPost A B w0 b2 0 w1) ∨ ∃ n, e = .panicked [{ v := refu n, recovered := false }] ∧ BuildPost A B w0 b2 n w1) := by
  have HR : Hid (Calls Try.prog 26 #[v, u] w fun e w' => LayAns A B w w' e) := lay_any v u A B hv hu uA uB lA lB
  obtain ⟨va, vn, vc, rfl⟩ := sl_is hv
  obtain ⟨ua, un, uc, rfl⟩ := sl_is hu
  have c0 : w.cell? ⟨b0, 0, none⟩ = some (.slice va vn vc) := h0.cell 0
  have c1 : w.cell? ⟨b1, 0, none⟩ = some (.slice ua un uc) := h1.cell 0
  have HH : Hid (Blk 22 w b2 [.slice none 0 0] ∧ Blk 26 w b4 [.int .i64 0] ∧ Below w0.heap.size w0 w) := ⟨h2, h4, hw⟩
  clear h0 h1 h2 h4 hw hv hu
  go_enter Try.func25, Try.ntmps25
  go_wp2_with fail
  refine HR.out.mono ?_
  rintro e w1 ⟨hg, hb⟩
  have k2 := below_blk hb HH.out.1.lt HH.out.1
  have k4 := below_blk hb HH.out.2.1.lt HH.out.2.1
  have hw1 : Below w0.heap.size w0 w1 := below_via HH.out.2.2 hb (Nat.le_refl _)
  by_cases h0 : layE A B = 0
  · unfold GiveUp at hg
    rw [if_pos h0] at hg
    obtain ⟨r, rfl, hr⟩ := hg
    obtain ⟨a2, n2, c2, rfl⟩ := sl_is hr
    have d2 : w1.cell? ⟨b2, 0, none⟩ = some (.slice none 0 0) := k2.cell 0
    have f2 := k2.frozen 0
    have u2 := Upd.set w1 b2 0 (.slice a2 n2 c2)
    have m2 : Blk 22 (w1.setCell ⟨b2, 0, none⟩ (.slice a2 n2 c2)) b2 [.slice a2 n2 c2] := k2.set 0 _
    have HP : Hid (Blk 26 (w1.setCell ⟨b2, 0, none⟩ (.slice a2 n2 c2)) b4 [.int .i64 0] ∧ BuildPost A B w0 b2 0 (w1.setCell ⟨b2, 0, none⟩ (.slice a2 n2 c2))) :=
      ⟨u2.blk k4 h24, h0.symm, u2.below hw1 hw1.size hb2, a2, n2, c2, m2, by rw [if_pos h0]; exact sl_upd hr k2 slice_nn u2⟩
    clear hr k2 k4 u2 m2 hb hw1
    go_wp2
    go_end0
    exact ⟨HP.out.1, .inl ⟨rfl, HP.out.2⟩⟩
  · unfold GiveUp at hg
    rw [if_neg h0] at hg
    subst hg
    have HP : Hid (Blk 26 w1 b4 [.int .i64 0] ∧ BuildPost A B w0 b2 (layE A B) w1) := ⟨k4, rfl, hw1, none, 0, 0, k2, by rw [if_neg h0]; exact Sl.nil0 _ _⟩
    clear k2 k4 hb hw1
    go_wp2
    exact ⟨rfl, HP.out.1, .inr ⟨_, rfl, HP.out.2⟩⟩
def BuildAns (A B : List Int) (w w' : World) (e : Ending) : Prop := ∃ r, e = .returned (.tuple #[r, .int .i64 (layE A B)]) ∧ Sl .u8 w' r (if layE A B = 0 then sigB A B else []) ∧ Below w.heap.size w w'
theorem enter25 (caps : Array Value) (w : World) : (callFunc 25 caps).run Try.prog w = .ok (.enter 25 caps) w := by
  simp [go_sem]
set_option maxRecDepth 20000 in
set_option maxHeartbeats 4000000 in
theorem Build_any {w : World} (v u : Value) (A B : List Int) (hv : Sl .u32 w v A) (hu : Sl .u32 w u B) (uA : U32s A) (uB : U32s B) (lA : A.length ≤ 600) (lB : B.length ≤ 600) :
    Calls Try.prog 13 #[v, u] w fun e w' => BuildAns A B w w' e := by
  have hmf : ∀ (fn : Fn) (first cap : Array Value) (w : World), (Instr.makeFunc fn first cap).run Try.prog w = .ok (.func fn first cap) w := fun _ _ _ _ => rfl
  obtain ⟨va, vn, vc, rfl⟩ := sl_is hv
  obtain ⟨ua, un, uc, rfl⟩ := sl_is hu
  have HX : Hid (Sl .u32 w (.slice va vn vc) A ∧ Sl .u32 w (.slice ua un uc) B ∧ U32s A ∧ U32s B ∧ A.length ≤ 600 ∧ B.length ≤ 600) := ⟨hv, hu, uA, uB, lA, lB⟩
  clear hv hu uA uB lA lB
  go_enter Try.func13, Try.ntmps13
  go_wp2_with fail
  have t1 : Blk 25 (w.alloc (.cells #[.slice va vn vc] 25)) w.heap.size [.slice va vn vc] := Blk.new ..
  have t2 : Blk 25 ((w.alloc (.cells #[.slice va vn vc] 25)).alloc (.cells #[.slice ua un uc] 25)) (w.heap.size + 1) [.slice ua un uc] := by simpa using Blk.new 25 (w.alloc (.cells #[.slice va vn vc] 25)) [.slice ua un uc]
  obtain ⟨W, hW⟩ : ∃ W, (((w.alloc (.cells #[.slice va vn vc] 25)).alloc (.cells #[.slice ua un uc] 25)).alloc (.cells #[.slice none 0 0] 22)) = W := ⟨_, rfl⟩
  have t3 : Blk 22 W (w.heap.size + 1 + 1) [.slice none 0 0] := by rw [← hW]; simpa using Blk.new 22 ((w.alloc (.cells #[.slice va vn vc] 25)).alloc (.cells #[.slice ua un uc] 25)) [.slice none 0 0]
  have hB : Below w.heap.size w W := by rw [← hW]; exact below_via (below_via (al1 _) (al1 _) (Nat.le_refl _)) (al1 _) (Nat.le_refl _)
  have hs : W.heap.size = w.heap.size + 1 + 1 + 1 := by rw [← hW]; simp
  have HW : Hid (Blk 25 W w.heap.size [.slice va vn vc] ∧ Blk 25 W (w.heap.size + 1) [.slice ua un uc] ∧ Blk 22 W (w.heap.size + 1 + 1) [.slice none 0 0] ∧ Below w.heap.size w W ∧ W.heap.size = w.heap.size + 1 + 1 + 1) := ⟨by rw [← hW]; exact (t1.alloc _).alloc _, by rw [← hW]; exact t2.alloc _, t3, hB, hs⟩
  rw [hW]
  clear t1 t2 t3 hB hs hW
  refine (attempt_any 25 _ (BuildPost A B w (w.heap.size + 1 + 1)) (enter25 _) ?_).mono ?_
  · obtain ⟨t1, t2, t3, hB, hs⟩ := HW.out
    have hB' := below_via hB (al1 (w := W) (.cells #[.int .i64 0] 26)) (Nat.le_refl _)
    exact build1_any (w0 := w) _ _ A B w.heap.size (w.heap.size + 1) (w.heap.size + 1 + 1) W.heap.size (t1.alloc _) (t2.alloc _) (t3.alloc _) (Blk.new ..) (by omega) (by omega) hB' (below_sl hB' HX.out.1) (below_sl hB' HX.out.2.1) HX.out.2.2.1 HX.out.2.2.2.1 HX.out.2.2.2.2.1 HX.out.2.2.2.2.2
  rintro e w2 ⟨n, w1, rfl, ⟨rfl, hb1, a2, n2, c2, k2, s2⟩, k4, hU⟩
  have hs := HW.out.2.2.2.2
  have j2 := hU.blk k2 (by omega)
  have i4 : ∀ c ∈ [Value.int .i64 0], ∀ n, c ≠ .int .u8 n := by intro c hc n; rw [List.mem_singleton] at hc; subst hc; intro h; cases h
  have hb2 : Below w.heap.size w w2 := hU.below hb1 hb1.size (by omega)
  have HP : Hid (Sl .u8 w2 (.slice a2 n2 c2) (if layE A B = 0 then sigB A B else []) ∧ Below w.heap.size w w2) := ⟨sl_upd s2 k4 i4 hU, hb2⟩
  have d2 : w2.cell? ⟨w.heap.size + 1 + 1, 0, none⟩ = some (.slice a2 n2 c2) := j2.cell 0
  clear hs j2 i4 hb2 hU k2 k4 s2 hb1 HW HX
  go_wp2
  go_ret2
  exact ⟨_, rfl, HP.out⟩
end Go.Proofs.Ytedoghjefdkmaaa
/-
  Ecdsa: Key.
-/
namespace Go.Proofs.Ytedoghjefdkmaaa
open Go.RowKit
set_option maxHeartbeats 1000000 in
theorem EisFar {w : World} (vx vy : Value) (X Y : List Int) (hX : Sl .u32 w vx X) (hY : Sl .u32 w vy Y) (uX : U32s X) (uY : U32s Y) (lX : X.length ≤ 1000000) (lY : Y.length ≤ 1000000) :
    Calls Try.prog 50 #[.agg #[vx, vy]] w fun e w' => e = .returned (.bool (farB X Y)) ∧ Below w.heap.size w w' := by
  have HX : Hid (∀ W, Below w.heap.size w W → Calls Try.prog 54 #[vx] W fun e w' => e = .returned (.int .i64 (bitLen (val X).toNat)) ∧ Below W.heap.size W w') := fun W hW => Nt.Bits_any X vx W (below_sl hW hX) uX (by omega)
  have HY : Hid (∀ W, Below w.heap.size w W → Calls Try.prog 54 #[vy] W fun e w' => e = .returned (.int .i64 (bitLen (val Y).toNat)) ∧ Below W.heap.size W w') := fun W hW => Nt.Bits_any Y vy W (below_sl hW hY) uY (by omega)
  have HF : Hid (farB X Y = (((bitLen (val X).toNat : Int) == 0) && ((bitLen (val Y).toNat : Int) == 0))) := by
    show _ = _
    unfold farB
    have h1 := bits0 uX
    have h2 := bits0 uY
    by_cases a : val X = 0 <;> by_cases b : val Y = 0
    · have e1 := h1.2 a; have e2 := h2.2 b; rw [e1, e2]; simp [a, b]
    · simp [a, b]; intro _; exact fun h => b (h2.1 (by omega))
    · simp [a, b]; intro h; exact absurd (h1.1 (by omega)) a
    · simp [a, b]; intro h; exact absurd (h1.1 (by omega)) a
  obtain ⟨x, hx⟩ : ∃ x, bitLen (val X).toNat = x := ⟨_, rfl⟩
  obtain ⟨y, hy⟩ : ∃ y, bitLen (val Y).toNat = y := ⟨_, rfl⟩
  rw [hx] at HX HF
  rw [hy] at HY HF
  clear hX hY uX uY lX lY hx hy
  go_enter Try.func50, Try.ntmps50
  go_upto_region 1 with (refine wpList_boxR rfl 43 (.tmp 0) rfl #[vx, vy] rfl ?_)
  refine wp_gen (fun W => Blk 43 W w.heap.size [vx, vy] ∧ Below w.heap.size w W) ⟨Blk.new _ w _, al1 _⟩ ?_
  rintro W2 ⟨hB, hBw⟩
  have hc0 : W2.cell? ⟨w.heap.size, 0, none⟩ = some vx := hB.cell 0
  have H2 : Hid (Below w.heap.size w W2 ∧ ∀ W3, Below W2.heap.size W2 W3 → W3.cell? ⟨w.heap.size, 1, none⟩ = some vy ∧ Below w.heap.size w W3) := ⟨hBw, fun W3 h3 => ⟨(below_blk h3 hB.lt hB).cell 1, below_via hBw h3 (Nat.le_refl _)⟩⟩
  clear hB hBw
  by_cases h0 : x = 0
  · have d0 : ((x : Int) == 0) = true := by simp [h0]
    have HF2 : Hid (farB X Y = ((y : Int) == 0)) := by show _ = _; rw [HF.out, d0]; rfl
    clear h0 HF
    go_wp2_with fail
    refine (HX.out _ H2.out.1).mono ?_
    rintro e w3 ⟨rfl, hb3⟩
    have hc1 := (H2.out.2 _ hb3).1
    have H3 : Hid (Below w.heap.size w w3) := (H2.out.2 _ hb3).2
    clear hb3 hc0
    go_wp2_with (go_at_call 54; refine (HY.out _ H3.out).mono ?_; rintro e w4 ⟨rfl, hb4⟩; have H4 : Hid (Below w.heap.size w w4) := below_via H3.out hb4 (Nat.le_refl _); clear hb4)
    go_ret
    exact ⟨by rw [HF2.out]; rfl, H4.out⟩
  · have d0 : ((x : Int) == 0) = false := by simp; exact h0
    have HF2 : Hid (farB X Y = false) := by show _ = _; rw [HF.out, d0]; rfl
    clear h0 HF
    go_wp2_with (go_at_call 54; refine (HX.out _ H2.out.1).mono ?_; rintro e w3 ⟨rfl, hb3⟩; have H3 : Hid (Below w.heap.size w w3) := (H2.out.2 _ hb3).2; clear hb3)
    go_ret
    exact ⟨by rw [HF2.out]; rfl, H3.out⟩
/-- What Key tells. -/
def keyS (c : Int) (X Y : List Int) : Int := if crvN (·.sz) (crv c) = 0 then 1 else if (onC c X Y && !farB X Y) = true then 0 else 80
set_option maxRecDepth 20000 in
set_option maxHeartbeats 4000000 in
theorem demandKey_any {w : World} (c : Int) (a1 : Option Addr) (n1 c1 : Nat) (a2 : Option Addr) (n2 c2 : Nat) (X Y : List Int) (hX : Sl .u32 w (.slice a1 n1 c1) X) (hY : Sl .u32 w (.slice a2 n2 c2) Y) (uX : U32s X) (uY : U32s Y) (lX : X.length ≤ 1000000) (lY : Y.length ≤ 1000000) :
    Calls Try.prog 32 #[.int .i64 c, .agg #[.slice a1 n1 c1, .slice a2 n2 c2]] w fun e w' => GiveUp (keyS c X Y) e (e = .returned (.tuple #[])) ∧ Below w.heap.size w w' := by
  have HO : Hid (∀ W, Below w.heap.size w W → Calls Try.prog 49 #[.int .i64 c, .agg #[.slice a1 n1 c1, .slice a2 n2 c2]] W fun e w' => e = .returned (.bool (onC c X Y)) ∧ Below W.heap.size W w') := fun W h => On_any c _ _ X Y (below_sl h hX) (below_sl h hY) uX uY lX lY
  have HF : Hid (∀ W, Below w.heap.size w W → Calls Try.prog 50 #[.agg #[.slice a1 n1 c1, .slice a2 n2 c2]] W fun e w' => e = .returned (.bool (farB X Y)) ∧ Below W.heap.size W w') := fun W h => EisFar _ _ X Y (below_sl h hX) (below_sl h hY) uX uY lX lY
  have HS : Hid (∀ W : World, Calls Try.prog 48 #[.int .i64 c] W fun e w' => e = .returned (.int .i64 (crvN (·.sz) (crv c) : Nat)) ∧ Below W.heap.size W w') := fun W => Size_any c
  have HK : Hid (keyS c X Y = if crvN (·.sz) (crv c) = 0 then 1 else if (onC c X Y && !farB X Y) = true then 0 else 80) := rfl
  obtain ⟨sz, hsz⟩ : ∃ sz, crvN (·.sz) (crv c) = sz := ⟨_, rfl⟩
  obtain ⟨K, hK⟩ : ∃ K, keyS c X Y = K := ⟨_, rfl⟩
  obtain ⟨bo, hbo⟩ : ∃ b, onC c X Y = b := ⟨_, rfl⟩
  obtain ⟨bf, hbf⟩ : ∃ b, farB X Y = b := ⟨_, rfl⟩
  rw [hsz] at HS
  rw [hsz, hK, hbo, hbf] at HK
  rw [hbo] at HO
  rw [hbf] at HF
  rw [hK]
  clear hX hY uX uY lX lY hsz hK hbo hbf
  by_cases hz : sz = 0
  · subst hz
    obtain rfl : K = 1 := HK.out
    go_enter Try.func32, Try.ntmps32
    go_wp2_with fail
    refine (HS.out _).mono ?_
    rintro e w1 ⟨rfl, hb1⟩
    have H1 : Hid (Below w.heap.size w w1) := below_via (al1 _) hb1 (Nat.le_refl _)
    clear hb1
    go_wp2_with fail
    refine (demand_no 1).mono ?_
    rintro e w2 ⟨rfl, rfl⟩
    go_wp2
    exact ⟨rfl, GiveUp.no (by decide), H1.out⟩
  · replace HK : Hid (K = if (bo && !bf) = true then 0 else 80) := HK.out.trans (if_neg hz)
    have hz0 : (0 : Int) < (sz : Int) := by omega
    have hz1 : 0 < sz := by omega
    go_enter Try.func32, Try.ntmps32
    go_wp2_with fail
    refine (HS.out _).mono ?_
    rintro e w1 ⟨rfl, hb1⟩
    have H1 : Hid (Below w.heap.size w w1 ∧ Blk 43 w1 w.heap.size [.slice a1 n1 c1, .slice a2 n2 c2]) := ⟨below_via (al1 _) hb1 (Nat.le_refl _), below_blk hb1 (by simp) (Blk.new _ w _)⟩
    have q0 : w1.cell? ⟨w.heap.size, 0, none⟩ = some (.slice a1 n1 c1) := H1.out.2.cell 0
    have q1 : w1.cell? ⟨w.heap.size, 1, none⟩ = some (.slice a2 n2 c2) := H1.out.2.cell 1
    clear hb1
    go_wp2_with fail
    refine (demand_yes 1).mono ?_
    rintro e w2 ⟨rfl, rfl⟩
    go_wp2_with fail
    refine (HO.out _ H1.out.1).mono ?_
    rintro e w3 ⟨rfl, hb3⟩
    have H3 : Hid (Below w.heap.size w w3) := below_via H1.out.1 hb3 (Nat.le_refl _)
    have k3 := below_blk hb3 H1.out.2.lt H1.out.2
    have g0 : w3.cell? ⟨w.heap.size, 0, none⟩ = some (.slice a1 n1 c1) := k3.cell 0
    have g1 : w3.cell? ⟨w.heap.size, 1, none⟩ = some (.slice a2 n2 c2) := k3.cell 1
    clear hb3 q0 q1 k3
    cases bo with
    | false =>
      obtain rfl : K = 80 := HK.out
      go_wp2_with fail
      refine (demand_no 80).mono ?_
      rintro e w4 ⟨rfl, rfl⟩
      go_wp2
      exact ⟨rfl, GiveUp.no (by decide), H3.out⟩
    | true =>
      go_wp2_with fail
      refine (HF.out _ H3.out).mono ?_
      rintro e w4 ⟨rfl, hb4⟩
      have H4 : Hid (Below w.heap.size w w4) := below_via H3.out hb4 (Nat.le_refl _)
      clear hb4 g0 g1
      cases bf with
      | true =>
        obtain rfl : K = 80 := HK.out
        go_wp2_with fail
        refine (demand_no 80).mono ?_
        rintro e w5 ⟨rfl, rfl⟩
        go_wp2
        exact ⟨rfl, GiveUp.no (by decide), H4.out⟩
      | false =>
        obtain rfl : K = 0 := HK.out
        go_wp2_with fail
        refine (demand_yes 80).mono ?_
        rintro e w5 ⟨rfl, rfl⟩
        go_wp2
        go_end0
        exact ⟨GiveUp.yes rfl rfl, H4.out⟩
def KeyPost (c : Int) (X Y : List Int) (w0 : World) (n : Int) (w : World) : Prop := n = keyS c X Y ∧ Below w0.heap.size w0 w
set_option maxRecDepth 20000 in
theorem key1_any {w w0 : World} (c : Int) (a1 : Option Addr) (n1 c1 : Nat) (a2 : Option Addr) (n2 c2 : Nat) (X Y : List Int) (b0 b1 b4 : Nat) (h0 : Blk 3 w b0 [.int .i64 c]) (h1 : Blk 43 w b1 [.slice a1 n1 c1, .slice a2 n2 c2]) (h4 : Blk 26 w b4 [.int .i64 0])
    (hw : Below w0.heap.size w0 w) (hX : Sl .u32 w (.slice a1 n1 c1) X) (hY : Sl .u32 w (.slice a2 n2 c2) Y) (uX : U32s X) (uY : U32s Y) (lX : X.length ≤ 1000000) (lY : Y.length ≤ 1000000) :
    Calls Try.prog 31 #[.pointer (some ⟨b0, 0, none⟩), .pointer (some ⟨b1, 0, none⟩)] w fun e w1 =>
      Blk 26 w1 b4 [.int .i64 0] ∧ ((e = .returned (.tuple #[]) ∧ KeyPost c X Y w0 0 w1) ∨ ∃ n, e = .panicked [{ v := refu n, recovered := false }] ∧ KeyPost c X Y w0 n w1) := by
  have HR : Hid (Calls Try.prog 32 #[.int .i64 c, .agg #[.slice a1 n1 c1, .slice a2 n2 c2]] w fun e w' => GiveUp (keyS c X Y) e (e = .returned (.tuple #[])) ∧ Below w.heap.size w w') := demandKey_any c a1 n1 c1 a2 n2 c2 X Y hX hY uX uY lX lY
  have d0 : w.cell? ⟨b0, 0, none⟩ = some (.int .i64 c) := h0.cell 0
  have d1 : w.cell? ⟨b1, 0, none⟩ = some (.slice a1 n1 c1) := h1.cell 0
  have d2 : w.cell? ⟨b1, 1, none⟩ = some (.slice a2 n2 c2) := h1.cell 1
  have HH : Hid (Blk 26 w b4 [.int .i64 0] ∧ Below w0.heap.size w0 w) := ⟨h4, hw⟩
  clear h0 h1 h4 hw hX hY uX uY lX lY
  go_enter Try.func31, Try.ntmps31
  go_wp2_with fail
  refine HR.out.mono ?_
  rintro e w1 ⟨hg, hb⟩
  have HP : Hid (Blk 26 w1 b4 [.int .i64 0] ∧ Below w0.heap.size w0 w1) := ⟨below_blk hb HH.out.1.lt HH.out.1, below_via HH.out.2 hb (Nat.le_refl _)⟩
  clear hb
  by_cases h0 : keyS c X Y = 0
  · unfold GiveUp at hg
    rw [if_pos h0] at hg
    subst hg
    go_wp2
    go_end0
    exact ⟨HP.out.1, .inl ⟨rfl, h0.symm, HP.out.2⟩⟩
  · unfold GiveUp at hg
    rw [if_neg h0] at hg
    subst hg
    go_wp2
    exact ⟨rfl, HP.out.1, .inr ⟨_, rfl, rfl, HP.out.2⟩⟩
theorem enter31 (caps : Array Value) (w : World) : (callFunc 31 caps).run Try.prog w = .ok (.enter 31 caps) w := by
  simp [go_sem]
set_option maxRecDepth 20000 in
set_option maxHeartbeats 4000000 in
theorem Key_any {w : World} (c : Int) (a1 : Option Addr) (n1 c1 : Nat) (a2 : Option Addr) (n2 c2 : Nat) (X Y : List Int) (hX : Sl .u32 w (.slice a1 n1 c1) X) (hY : Sl .u32 w (.slice a2 n2 c2) Y) (uX : U32s X) (uY : U32s Y) (lX : X.length ≤ 1000000) (lY : Y.length ≤ 1000000) :
    Calls Try.prog 18 #[.int .i64 c, .agg #[.slice a1 n1 c1, .slice a2 n2 c2]] w fun e w' => e = .returned (.int .i64 (keyS c X Y)) ∧ Below w.heap.size w w' := by
  have hmf : ∀ (fn : Fn) (first cap : Array Value) (w : World), (Instr.makeFunc fn first cap).run Try.prog w = .ok (.func fn first cap) w := fun _ _ _ _ => rfl
  have HX : Hid (Sl .u32 w (.slice a1 n1 c1) X ∧ Sl .u32 w (.slice a2 n2 c2) Y ∧ U32s X ∧ U32s Y ∧ X.length ≤ 1000000 ∧ Y.length ≤ 1000000) := ⟨hX, hY, uX, uY, lX, lY⟩
  clear hX hY uX uY lX lY
  go_enter Try.func18, Try.ntmps18
  go_wp2_with fail
  obtain ⟨W, hW⟩ : ∃ W, ((w.alloc (.cells #[.int .i64 c] 3)).alloc (.cells #[.slice a1 n1 c1, .slice a2 n2 c2] 43)) = W := ⟨_, rfl⟩
  have t1 : Blk 3 W w.heap.size [.int .i64 c] := by rw [← hW]; exact Blk.alloc (Blk.new ..) _
  have t2 : Blk 43 W (w.heap.size + 1) [.slice a1 n1 c1, .slice a2 n2 c2] := by rw [← hW]; simpa using Blk.new 43 (w.alloc (.cells #[.int .i64 c] 3)) [.slice a1 n1 c1, .slice a2 n2 c2]
  have hB : Below w.heap.size w W := by rw [← hW]; exact below_via (al1 _) (al1 _) (Nat.le_refl _)
  have hs : w.heap.size ≤ W.heap.size := hB.size
  rw [hW]
  refine (attempt_any 31 _ (KeyPost c X Y w) (enter31 _) ?_).mono ?_
  · have hB' := below_via hB (al1 (w := W) (.cells #[.int .i64 0] 26)) (Nat.le_refl _)
    exact key1_any (w0 := w) c a1 n1 c1 a2 n2 c2 X Y w.heap.size (w.heap.size + 1) W.heap.size (t1.alloc _) (t2.alloc _) (Blk.new ..) hB' (below_sl hB' HX.out.1) (below_sl hB' HX.out.2.1) HX.out.2.2.1 HX.out.2.2.2.1 HX.out.2.2.2.2.1 HX.out.2.2.2.2.2
  rintro e w2 ⟨n, w1, rfl, ⟨rfl, hb1⟩, k4, hU⟩
  have HP : Hid (Below w.heap.size w w2) := hU.below hb1 hb1.size (by omega)
  clear hU k4 hb1 hs hB t1 t2 hW
  go_wp2
  go_ret
  exact ⟨rfl, HP.out⟩
end Go.Proofs.Ytedoghjefdkmaaa
/-
  Ecdsa: the page's examples.
-/
namespace Go.Proofs.Ytedoghjefdkmaaa
open Go.RowKit
theorem sl_strX {w : World} {a : Option Addr} {n c : Nat} {X : List Int} (h : Sl .u8 w (.slice a n c) X) : Sem.run Try.prog (convert 22 9 (.slice a n c)) w = .ok (.string (strOfNums X)) w := by
  obtain ⟨a', c', hv, _, hx | ⟨b, off, rfl, _, hr⟩⟩ := h
  · simp only [Value.slice.injEq] at hv
    obtain ⟨rfl, rfl, rfl⟩ := hv
    subst hx
    rw [run_convert_bytes_string w _ _ _ _ _ c Try.und8 Try.e8 Try.str]
    cases a with
    | none => simp [Conv.bytesToString]; rfl
    | some p => simp [Conv.bytesToString, loadCells]; rfl
  · simp only [Value.slice.injEq] at hv
    obtain ⟨rfl, rfl, rfl⟩ := hv
    exact run_convert_bytes_arg w _ _ Try.und8 Try.e8 b off _ _ X rfl hr _ Try.str
theorem num10_any (x : Int) (w : World) : Calls Try.prog 10 #[.int .i64 x] w fun e w' => e = .returned (.int .i64 x) ∧ w = w' := by
  go_enter Try.func10, Try.ntmps10
  go_wp2
  go_ret
  exact ⟨rfl, rfl⟩
theorem ex1 : sigB [1] [255] = [48, 7, 2, 1, 1, 2, 2, 0, 255] := by decide +kernel
theorem ex2 : ecS [48, 7, 2, 1, 1, 2, 2, 0, 255] = ([1], [255], 0) := by decide +kernel
theorem ex3 : ecS [48, 3, 2, 1, 1] = ([], [], 30) := by decide +kernel
theorem ex4 : keyS 1 [] [] = 80 := by decide +kernel
theorem ex5 : layE [1] [255] = 0 := by decide
set_option maxRecDepth 100000 in
set_option maxHeartbeats 4000000 in
theorem live10_any {w : World} : Calls Try.prog 5 #[] w fun e w' => e = .returned (.bool true) ∧ Below w.heap.size w w' := by
  have u1 : U32s [1] := by intro x hx; simp at hx; subst hx; unfold U32; omega
  have u255 : U32s [255] := by intro x hx; simp at hx; subst hx; unfold U32; omega
  have H0 : Hid (∀ w : World, Sl .u32 ((w.alloc (.cells #[.int .u32 1] 40)).alloc (.cells #[.int .u32 255] 40)) (.slice (some ⟨w.heap.size, 0, none⟩) 1 1) [1] ∧ Sl .u32 ((w.alloc (.cells #[.int .u32 1] 40)).alloc (.cells #[.int .u32 255] 40)) (.slice (some ⟨w.heap.size + 1, 0, none⟩) 1 1) [255] ∧ U32s [1] ∧ U32s [255]) := fun w =>
    ⟨sl_alloc (Arr.sl (S := [1]) (arr_nw rfl rfl)) _, Arr.sl (S := [255]) (arr_nw (by simp) rfl), u1, u255⟩
  clear u1 u255
  go_enter Try.func5, Try.ntmps5
  go_wp2_with fail
  refine (Build_any _ _ [1] [255] (H0.out w).1 (H0.out w).2.1 (H0.out w).2.2.1 (H0.out w).2.2.2 (by decide) (by decide)).mono ?_
  rintro e w1 ⟨r, rfl, hr, hb⟩
  rw [ex5, if_pos rfl, ex1] at hr
  rw [ex5]
  obtain ⟨a, n, c, rfl⟩ := sl_is hr
  have H1 : Hid (Sl .u8 w1 (.slice a n c) [48, 7, 2, 1, 1, 2, 2, 0, 255] ∧ Below w.heap.size w w1) := ⟨hr, below_via (below_via (al1 _) (al1 _) (Nat.le_refl _)) hb (Nat.le_refl _)⟩
  clear hr hb
  go_wp2_with fail
  refine (Parse_any _ [48, 7, 2, 1, 1, 2, 2, 0, 255] H1.out.1 (by intro x hx; simp at hx; unfold U8; omega) (by decide)).mono ?_
  rintro e w2 ⟨r2, s2, rfl, hr2, hs2, hb2⟩
  rw [ex2] at hr2 hs2
  rw [ex2]
  simp only [] at hr2 hs2 ⊢
  obtain ⟨a2, n2, c2, rfl⟩ := sl_is hr2
  obtain ⟨a3, n3, c3, rfl⟩ := sl_is hs2
  have H2 : Hid (Sl .u8 w2 (.slice a n c) [48, 7, 2, 1, 1, 2, 2, 0, 255] ∧ Sl .u32 w2 (.slice a2 n2 c2) [1] ∧ Sl .u32 w2 (.slice a3 n3 c3) [255] ∧ Below w.heap.size w w2) := ⟨below_sl hb2 H1.out.1, hr2, hs2, below_via H1.out.2 hb2 (Nat.le_refl _)⟩
  clear hr2 hs2 hb2 H1
  go_wp2_with fail
  refine (Parse_any _ [48, 3, 2, 1, 1] (Arr.sl (S := [48, 3, 2, 1, 1]) (arr_nw rfl rfl)) (by intro x hx; simp at hx; unfold U8; omega) (by decide)).mono ?_
  rintro e w3 ⟨r3, s3, rfl, hr3, hs3, hb3⟩
  rw [ex3]
  simp only [] at hr3 hs3 ⊢
  obtain ⟨a4, n4, c4, rfl⟩ := sl_is hr3
  obtain ⟨a5, n5, c5, rfl⟩ := sl_is hs3
  have H3 : Hid (Sl .u8 w3 (.slice a n c) [48, 7, 2, 1, 1, 2, 2, 0, 255] ∧ Sl .u32 w3 (.slice a2 n2 c2) [1] ∧ Sl .u32 w3 (.slice a3 n3 c3) [255] ∧ Below w.heap.size w w3) := by
    have hb := below_via (al1 (w := w2) (.cells #[.int .u8 48, .int .u8 3, .int .u8 2, .int .u8 1, .int .u8 1] 5)) hb3 (Nat.le_refl _)
    exact ⟨below_sl hb H2.out.1, below_sl hb H2.out.2.1, below_sl hb H2.out.2.2.1, below_via H2.out.2.2.2 hb (Nat.le_refl _)⟩
  clear hr3 hs3 hb3 H2
  have hcv : Sem.run Try.prog (convert 22 9 (.slice a n c)) w3 = .ok (.string ⟨#[48, 7, 2, 1, 1, 2, 2, 0, 255]⟩) w3 := by
    rw [sl_strX H3.out.1]; rfl
  go_wp2_with fail
  refine (num10_any _ _).mono ?_
  rintro e w4 ⟨rfl, rfl⟩
  go_wp2_with fail
  refine (num10_any _ _).mono ?_
  rintro e w4 ⟨rfl, rfl⟩
  go_wp2_with fail
  refine (NSame_any _ _ [1] (sl_alloc H3.out.2.1 _) (Arr.sl (S := [1]) (arr_nw rfl rfl)) (by decide)).mono ?_
  rintro e w4 ⟨rfl, hb4⟩
  have H4 : Hid (Sl .u32 w4 (.slice a3 n3 c3) [255] ∧ Below w.heap.size w w4) := by
    have hb := below_via (al1 (w := w3) (.cells #[.int .u32 1] 40)) hb4 (Nat.le_refl _)
    exact ⟨below_sl hb H3.out.2.2.1, below_via H3.out.2.2.2 hb (Nat.le_refl _)⟩
  clear hb4 H3 hcv
  go_wp2_with fail
  refine (NSame_any _ _ [255] (sl_alloc H4.out.1 _) (Arr.sl (S := [255]) (arr_nw rfl rfl)) (by decide)).mono ?_
  rintro e w5 ⟨rfl, hb5⟩
  have H5 : Hid (Below w.heap.size w w5) := below_via (below_via H4.out.2 (al1 _) (Nat.le_refl _)) hb5 (Nat.le_refl _)
  clear hb5 H4
  go_wp2_with fail
  refine (num10_any _ _).mono ?_
  rintro e w6 ⟨rfl, rfl⟩
  go_wp2_with fail
  refine (Key_any 1 none 0 0 none 0 0 [] [] (Sl.nil0 _ _) (Sl.nil0 _ _) (by intro x hx; cases hx) (by intro x hx; cases hx) (by decide) (by decide)).mono ?_
  rintro e w6 ⟨rfl, hb6⟩
  rw [ex4]
  have H6 : Hid (Below w.heap.size w w6) := below_via H5.out hb6 (Nat.le_refl _)
  clear hb6
  go_wp2_with fail
  refine (num10_any _ _).mono ?_
  rintro e w7 ⟨rfl, rfl⟩
  go_wp2
  go_ret
  exact ⟨rfl, H6.out⟩
end Go.Proofs.Ytedoghjefdkmaaa
/-
  How the laws' arguments read (a plain seat).
-/
namespace Go.Proofs.Ytedoghjefdkmaaa
open Go.RowKit
/-! ### how an argument reads -/
def IsRow (k : IntKind) (w : World) (a : Option Addr) (len cap : Nat) (zs : List Int) : Prop :=
  (a = none ∧ len = 0 ∧ cap = 0 ∧ zs = []) ∨
  ∃ x, a = some x ∧ len ≤ cap ∧ cap ≤ maxLen ∧ zs.length = cap ∧ (∀ i, i < zs.length → w.cell? (x.add i) = some (.int k (zs.getD i 0))) ∧ ∀ n ∈ zs, (Lit.int k n).wf = true
theorem cell_spot {w : World} {x : Addr} {v : Value} (h : w.cell? x = some v) : x.spot = none ∧ x.block < w.heap.size := by
  unfold World.cell? at h
  split at h
  · rename_i c t f hh
    refine ⟨?_, (Array.getElem?_eq_some_iff.1 hh).1⟩
    by_cases hs : x.spot.isSome
    · simp [hs] at h
    · simpa using hs
  · cases h
theorem IsRow.sl {k : IntKind} {w : World} {a : Option Addr} {len cap : Nat} {zs : List Int} (h : IsRow k w a len cap zs) :
    ∃ X, X.length = len ∧ Sl k w (.slice a len cap) X ∧ ∀ n ∈ X, (Lit.int k n).wf = true := by
  rcases h with ⟨rfl, rfl, rfl, rfl⟩ | ⟨x, rfl, hl, hm, hz, hc, hw⟩
  · exact ⟨[], rfl, ⟨none, 0, rfl, Nat.le_refl _, .inl rfl⟩, by simp⟩
  · refine ⟨zs.take len, by simp; omega, ⟨some x, cap, by simp; omega, by simp; omega, ?_⟩, fun n hn => hw n (List.mem_of_mem_take hn)⟩
    by_cases h0 : len = 0
    · subst h0; exact .inl (by simp)
    · right
      obtain ⟨b, off, sp⟩ := x
      have h1 := cell_spot (hc 0 (by omega))
      have hsp : sp = none := by
        have := h1.1
        cases sp with
        | none => rfl
        | some s => simp [Addr.add] at this
      subst hsp
      have hb : b < w.heap.size := by have := h1.2; simpa [Addr.add] using this
      refine ⟨b, off, rfl, hb, fun i hi => ?_⟩
      simp at hi
      have := hc i (by omega)
      have hadd : (⟨b, off, none⟩ : Addr).add i = ⟨b, off + i, none⟩ := by simp [Addr.add]
      rw [hadd] at this
      rw [this]
      simp [show i < len by omega]
theorem IsRow.sl32 {w : World} {a : Option Addr} {len cap : Nat} {zs : List Int} (h : IsRow .u32 w a len cap zs) : ∃ X, X.length = len ∧ Sl .u32 w (.slice a len cap) X ∧ U32s X := by
  obtain ⟨X, h1, h2, h3⟩ := h.sl
  exact ⟨X, h1, h2, fun n hn => by have := bounds_u32 (h3 n hn); exact ⟨this.1, by omega⟩⟩
theorem IsRow.sl8 {w : World} {a : Option Addr} {len cap : Nat} {zs : List Int} (h : IsRow .u8 w a len cap zs) : ∃ X, X.length = len ∧ Sl .u8 w (.slice a len cap) X ∧ U8s X := by
  obtain ⟨X, h1, h2, h3⟩ := h.sl
  exact ⟨X, h1, h2, fun n hn => by have := bounds_u8 (h3 n hn); exact ⟨this.1, by omega⟩⟩
end Go.Proofs.Ytedoghjefdkmaaa
/-
  Ecdsa: the law EcdsaParses.
-/
namespace Go.Proofs.Ytedoghjefdkmaaa
open Go.RowKit
theorem fromS_len {bs : List Int} (hu : U8s bs) : (fromS bs).1.length ≤ bs.length := by
  unfold fromS
  split
  · simp
  · have h := bv_bound hu.rev
    rw [List.length_reverse] at h
    refine lim_len_le (k := bs.length) ?_
    rw [Int.toNat_of_nonneg h.1]
    have h2 : (256 : Int) ^ bs.length ≤ 4294967296 ^ bs.length := by
      have : (((256 : Nat) ^ bs.length : Nat) : Int) ≤ (((4294967296 : Nat) ^ bs.length : Nat) : Int) := Int.ofNat_le.2 (Nat.pow_le_pow_left (by omega) _)
      rw [Int.natCast_pow, Int.natCast_pow] at this
      exact this
    exact Int.lt_of_lt_of_le h.2 h2
theorem uintS_len {X : List Int} (hu : U8s X) : (uintS X).1.length ≤ X.length := by
  unfold uintS
  split
  · simp
  split
  · simp
  split
  · have := fromS_len (bs := X.drop 1) (fun y hy => hu y (List.mem_of_mem_drop hy))
    rw [List.length_drop] at this
    omega
  · exact fromS_len hu
theorem ecP_len {x y : El} {N : Nat} (hx : U8s x.d) (hy : U8s y.d) (lx : x.d.length ≤ N) (ly : y.d.length ≤ N) : (ecP x y).1.length ≤ N ∧ (ecP x y).2.1.length ≤ N := by
  have h1 := uintS_len hx
  have h2 := uintS_len hy
  unfold ecP
  repeat' split
  all_goals (simp only [List.length_nil]; omega)
theorem ecL_len {N : Nat} : ∀ {S : Sp}, (∀ L, S = .ok L → ∀ y ∈ L, y.d.length ≤ N ∧ U8s y.d) → (ecL S).1.length ≤ N ∧ (ecL S).2.1.length ≤ N
  | .bad _ _, _ => ⟨Nat.zero_le _, Nat.zero_le _⟩
  | .ok [], _ => ⟨Nat.zero_le _, Nat.zero_le _⟩
  | .ok [_], _ => ⟨Nat.zero_le _, Nat.zero_le _⟩
  | .ok [x, y], h => ecP_len (h _ rfl x (by simp)).2 (h _ rfl y (by simp)).2 (h _ rfl x (by simp)).1 (h _ rfl y (by simp)).1
  | .ok (_ :: _ :: _ :: _), _ => ⟨Nat.zero_le _, Nat.zero_le _⟩
theorem ecS_len {M : List Int} (hM : U8s M) : (ecS M).1.length ≤ M.length ∧ (ecS M).2.1.length ≤ M.length := by
  have h1 := oneS_u8 hM
  unfold ecS ecO
  split
  · exact ⟨Nat.zero_le _, Nat.zero_le _⟩
  · split
    · exact ⟨Nat.zero_le _, Nat.zero_le _⟩
    · exact ecL_len fun L hL y hy => by have := splitS_u8 h1.2 hL y hy; exact ⟨by omega, this.2⟩
set_option maxRecDepth 20000 in
set_option maxHeartbeats 4000000 in
theorem EcdsaParses_any {w : World} (a : Option Addr) (n c : Nat) (X : List Int) (hX : Sl .u8 w (.slice a n c) X) (uX : U8s X) (lX : X.length = n) :
    Calls Try.prog 3 #[.slice a n c] w fun e w' => e = .returned (.bool true) ∧ Below w.heap.size w w' := by
  by_cases hn : n ≤ 5000
  · have HX : Hid (Sl .u8 w (.slice a n c) X ∧ U8s X ∧ X.length ≤ 5000) := ⟨hX, uX, by omega⟩
    have hnI : (n : Int) ≤ 5000 := by omega
    clear hX uX lX
    have hl := ecS_len HX.out.2.1
    obtain ⟨⟨R, S, er⟩, hE⟩ : ∃ E, ecS X = E := ⟨_, rfl⟩
    rw [hE] at hl
    have HE : Hid (ecS X = (R, S, er) ∧ R.length ≤ 5000 ∧ S.length ≤ 5000) := ⟨hE, Nat.le_trans hl.1 HX.out.2.2, Nat.le_trans hl.2 HX.out.2.2⟩
    clear hE hl
    go_enter Try.func3, Try.ntmps3
    go_wp2_with fail
    refine (Lent8_any X _ w HX.out.1 (by have := HX.out.2.2; omega)).mono ?_
    rintro e w1 ⟨v1, rfl, hl1, hb1⟩
    obtain ⟨a1, n1, c1, hv1⟩ : ∃ a n c, v1 = .slice a n c := by obtain ⟨b, S, h, _⟩ := hl1; exact ⟨_, _, _, h⟩
    subst hv1
    have H1 : Hid (LentR8 w.heap.size w1 (.slice a1 n1 c1) X ∧ Below w.heap.size w w1) := ⟨hl1, hb1⟩
    clear hl1 hb1
    go_wp2_with fail
    refine (Parse_any _ X H1.out.1.sl HX.out.2.1 (by have := HX.out.2.2; omega)).mono ?_
    rintro e w2 ⟨r2, s2, rfl, hr2, hs2, hb2⟩
    rw [HE.out.1] at hr2 hs2
    rw [HE.out.1]
    simp only [] at hr2 hs2 ⊢
    obtain ⟨ra, rn, rc, rfl⟩ := sl_is hr2
    obtain ⟨sa, sn, sc, rfl⟩ := sl_is hs2
    have H2 : Hid (Sl .u32 w2 (.slice ra rn rc) R ∧ Sl .u32 w2 (.slice sa sn sc) S ∧ Below w1.heap.size w1 w2) := ⟨hr2, hs2, hb2⟩
    clear hr2 hs2 hb2
    go_wp2_with fail
    refine (RParse_any _ X (below_sl (below_via H1.out.2 H2.out.2.2 (Nat.le_refl _)) HX.out.1) HX.out.2.1 (by have := HX.out.2.2; omega)).mono ?_
    rintro e w3 ⟨r3, s3, rfl, hr3, hs3, hb3⟩
    rw [HE.out.1] at hr3 hs3
    rw [HE.out.1]
    simp only [] at hr3 hs3 ⊢
    obtain ⟨ra3, rn3, rc3, rfl⟩ := sl_is hr3
    obtain ⟨sa3, sn3, sc3, rfl⟩ := sl_is hs3
    have H3 : Hid (Sl .u32 w3 (.slice ra rn rc) R ∧ Sl .u32 w3 (.slice sa sn sc) S ∧ Sl .u32 w3 (.slice ra3 rn3 rc3) R ∧ Sl .u32 w3 (.slice sa3 sn3 sc3) S ∧ Below w1.heap.size w1 w3) := ⟨below_sl hb3 H2.out.1, below_sl hb3 H2.out.2.1, hr3, hs3, below_via H2.out.2.2 hb3 (Nat.le_refl _)⟩
    clear hr3 hs3 hb3 H2
    go_wp2_with fail
    refine (NSame_any _ _ R H3.out.1 H3.out.2.2.1 (by have := HE.out.2.1; omega)).mono ?_
    rintro e w4 ⟨rfl, hb4⟩
    have H4 : Hid (Sl .u32 w4 (.slice sa sn sc) S ∧ Sl .u32 w4 (.slice sa3 sn3 sc3) S ∧ Below w1.heap.size w1 w4) := ⟨below_sl hb4 H3.out.2.1, below_sl hb4 H3.out.2.2.2.1, below_via H3.out.2.2.2.2 hb4 (Nat.le_refl _)⟩
    clear hb4 H3
    go_wp2_with fail
    refine (NSame_any _ _ S H4.out.1 H4.out.2.1 (by have := HE.out.2.2; omega)).mono ?_
    rintro e w5 ⟨rfl, hb5⟩
    have H5 : Hid (Below w1.heap.size w1 w5) := below_via H4.out.2.2 hb5 (Nat.le_refl _)
    clear hb5 H4
    go_wp2_with fail
    refine (num10_any _ _).mono ?_
    rintro e w6 ⟨rfl, rfl⟩
    go_wp2_with fail
    refine (Kept8_any _ _ X (H1.out.1.below H5.out) (below_sl (below_via H1.out.2 H5.out (Nat.le_refl _)) HX.out.1) (by have := HX.out.2.2; omega)).mono ?_
    rintro e w6 ⟨rfl, hb6⟩
    have H6 : Hid (Below w.heap.size w w6) := below_via (below_via H1.out.2 H5.out (Nat.le_refl _)) hb6 (Nat.le_refl _)
    clear hb6
    go_wp2_with fail
    refine live10_any.mono ?_
    rintro e w7 ⟨rfl, hb7⟩
    have H7 : Hid (Below w.heap.size w w7) := below_via H6.out hb7 (Nat.le_refl _)
    clear hb7
    go_wp2
    go_ret
    exact ⟨rfl, H7.out⟩
  · have hnI : ¬ (n : Int) ≤ 5000 := by omega
    have hnJ : (n : Int) > 5000 := by omega
    clear hX uX lX
    go_enter Try.func3, Try.ntmps3
    go_wp2_with fail
    refine live10_any.mono ?_
    rintro e w7 ⟨rfl, hb7⟩
    have H7 : Hid (Below w.heap.size w w7) := hb7
    clear hb7
    go_wp2
    go_ret
    exact ⟨rfl, H7.out⟩
end Go.Proofs.Ytedoghjefdkmaaa
