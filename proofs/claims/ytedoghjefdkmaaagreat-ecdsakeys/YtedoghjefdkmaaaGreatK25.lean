/-
  Ecdsa: Build.
-/
import Derived.Laws.BytesArg
import Derived.Lib.Strings
import Derived.Test.YtedoghjefdkmaaaGreatK24
namespace Go.Proofs.YtedoghjefdkmaaaGreat
open Go.RowKit
theorem enc2_u8 {t : Nat} {co : Bool} {d : List Int} (ht : t = 2 ∨ t = 16) (hd : U8s d) (hl : d.length < 65536) : U8s (enc2 t co d) :=
  encB_u8 0 co t 0 _ d (by rcases ht with rfl | rfl <;> rfl) (lenC_ok hl).2.2 hd
theorem lenC_le (n : Nat) : lenC n ≤ 2 := by unfold lenC; split; · omega
                                             split <;> omega
theorem enc2_len {t : Nat} {co : Bool} {d : List Int} (ht : t < 31) : (enc2 t co d).length ≤ d.length + 4 := by
  unfold enc2 encB
  have := lenC_le d.length
  rw [List.length_append, List.length_append, headB_len, lenB_len, if_pos ht]
  split <;> omega
def layE (A B : List Int) : Int := if A.length ≤ 512 ∧ B.length ≤ 512 then 0 else 1
def LayAns (A B : List Int) (w w' : World) (e : Ending) : Prop := GiveUp (layE A B) e (∃ r, e = .returned r ∧ Sl .u8 w' r (sigB A B)) ∧ Below w.heap.size w w'
theorem sig_u8 {X Y : List Int} (hX : U8s X) (hY : U8s Y) : U8s (X ++ Y) := fun z hz => by rcases List.mem_append.1 hz with h | h; exact hX z h; exact hY z h
set_option maxRecDepth 20000 in
set_option maxHeartbeats 4000000 in
theorem lay_any {w : World} (v u : Value) (A B : List Int) (hA : Sl .u32 w v A) (hB : Sl .u32 w u B) (uA : U32s A) (uB : U32s B) (lA : A.length ≤ 600) (lB : B.length ≤ 600) :
    Calls Tryz.prog 57 #[v, u] w fun e w' => LayAns A B w w' e := by
  have HLn : Hid (A.length ≤ 600 ∧ B.length ≤ 600) := ⟨lA, lB⟩
  have HX : Hid (Sl .u32 w v A ∧ Sl .u32 w u B ∧ U32s A ∧ U32s B ∧ A.length ≤ 600 ∧ B.length ≤ 600) := ⟨hA, hB, uA, uB, lA, lB⟩
  obtain ⟨a, c, rfl, hc, _⟩ := hA
  obtain ⟨a', c', rfl, hc', _⟩ := hB
  obtain ⟨n, hn⟩ : ∃ n, A.length = n := ⟨_, rfl⟩
  obtain ⟨n', hn'⟩ : ∃ n, B.length = n := ⟨_, rfl⟩
  have HL : Hid (layE A B = if n ≤ 512 ∧ n' ≤ 512 then 0 else 1) := by show layE A B = _; unfold layE; rw [hn, hn']
  rw [hn] at HX
  rw [hn'] at HX
  rw [hn, hn']
  clear hc hc' uA uB lA lB hn hn'
  by_cases h1 : n ≤ 512
  · have g1 : (n : Int) ≤ 512 := by omega
    by_cases h2 : n' ≤ 512
    · have g2 : (n' : Int) ≤ 512 := by omega
      replace HL : Hid (layE A B = 0) := HL.out.trans (if_pos ⟨h1, h2⟩)
      go_enter Tryz.func57, Tryz.ntmps57
      go_wp2_with fail
      refine (demand_yes 1).mono ?_
      rintro e w1 ⟨rfl, rfl⟩
      go_wp2_with fail
      refine (PutUint_any _ A HX.out.1 HX.out.2.2.1 HLn.out.1).mono ?_
      rintro e w2 ⟨r1, m1, hm1, hm1', rfl, hs1, hb2⟩
      obtain ⟨a1, n1, c1, rfl⟩ := sl_is hs1
      rw [numB_of HX.out.2.2.1 hm1] at hs1
      have H2 : Hid (Sl .u8 w2 (.slice a1 n1 c1) (numB A) ∧ U8s (numB A) ∧ (numB A).length ≤ 2401 ∧ Below w.heap.size w w2) := ⟨hs1, pI_u8 _ _, by rw [← numB_of HX.out.2.2.1 hm1, pI_len]; exact hm1', hb2⟩
      clear hm1 hm1' hs1 hb2
      go_wp2_with fail
      refine (put_any 2 (.inl rfl) false (some ⟨w2.heap.size, 0, none⟩) 1 1 [.slice a1 n1 c1] [numB A] (lists1 (T := 25) (by exact Blk.new _ w2 _) (sl_alloc H2.out.1 _) H2.out.2.1) (by have := H2.out.2.2.1; simp; omega) (by omega)).mono ?_
      rintro e w3 ⟨p1, rfl, hp1, hb3⟩
      rw [show [numB A].flatten = numB A by simp] at hp1
      obtain ⟨pa1, pc1, hpe⟩ := hp1.ne
      obtain ⟨pn1, hpn⟩ : ∃ x, (enc2 2 false (numB A)).length = x := ⟨_, rfl⟩
      rw [hpn] at hpe
      subst hpe
      have H3 : Hid (Sl .u8 w3 (.slice pa1 pn1 pc1) (enc2 2 false (numB A)) ∧ U8s (enc2 2 false (numB A)) ∧ (enc2 2 false (numB A)).length ≤ 2405 ∧ Below w.heap.size w w3) := ⟨hp1.sl, enc2_u8 (.inl rfl) H2.out.2.1 (by have := H2.out.2.2.1; omega), Nat.le_trans (enc2_len (by decide)) (by have := H2.out.2.2.1; omega), below_via (below_via H2.out.2.2.2 (al1 _) (Nat.le_refl _)) hb3 (Nat.le_refl _)⟩
      clear hp1 hb3 hpn H2
      go_wp2_with fail
      refine (PutUint_any _ B (below_sl H3.out.2.2.2 HX.out.2.1) HX.out.2.2.2.1 HLn.out.2).mono ?_
      rintro e w4 ⟨r2, m2, hm2, hm2', rfl, hs2, hb4⟩
      obtain ⟨a2, n2, c2, rfl⟩ := sl_is hs2
      rw [numB_of HX.out.2.2.2.1 hm2] at hs2
      have H4 : Hid (Sl .u8 w4 (.slice a2 n2 c2) (numB B) ∧ U8s (numB B) ∧ (numB B).length ≤ 2401 ∧ Below w3.heap.size w3 w4) := ⟨hs2, pI_u8 _ _, by rw [← numB_of HX.out.2.2.2.1 hm2, pI_len]; exact hm2', hb4⟩
      clear hm2 hm2' hs2 hb4
      go_wp2_with fail
      refine (put_any 2 (.inl rfl) false (some ⟨w4.heap.size, 0, none⟩) 1 1 [.slice a2 n2 c2] [numB B] (lists1 (T := 25) (by exact Blk.new _ w4 _) (sl_alloc H4.out.1 _) H4.out.2.1) (by have := H4.out.2.2.1; simp; omega) (by omega)).mono ?_
      rintro e w5 ⟨p2, rfl, hp2, hb5⟩
      rw [show [numB B].flatten = numB B by simp] at hp2
      obtain ⟨pa2, pc2, hpe⟩ := hp2.ne
      obtain ⟨pn2, hpn⟩ : ∃ x, (enc2 2 false (numB B)).length = x := ⟨_, rfl⟩
      rw [hpn] at hpe
      subst hpe
      have H5 : Hid (Sl .u8 w5 (.slice pa2 pn2 pc2) (enc2 2 false (numB B)) ∧ U8s (enc2 2 false (numB B)) ∧ (enc2 2 false (numB B)).length ≤ 2405 ∧ Below w3.heap.size w3 w5) := ⟨hp2.sl, enc2_u8 (.inl rfl) H4.out.2.1 (by have := H4.out.2.2.1; omega), Nat.le_trans (enc2_len (by decide)) (by have := H4.out.2.2.1; omega), below_via (below_via H4.out.2.2.2 (al1 _) (Nat.le_refl _)) hb5 (Nat.le_refl _)⟩
      clear hp2 hb5 hpn H4
      go_wp2_with fail
      refine (put_any 16 (.inr rfl) true (some ⟨w5.heap.size, 0, none⟩) 2 2 [.slice pa1 pn1 pc1, .slice pa2 pn2 pc2] [enc2 2 false (numB A), enc2 2 false (numB B)] (lists2 (T := 25) (by exact Blk.new _ w5 _) (sl_alloc (below_sl H5.out.2.2.2 H3.out.1) _) H3.out.2.1 (sl_alloc H5.out.1 _) H5.out.2.1) (by have := H3.out.2.2.1; have := H5.out.2.2.1; simp; omega) (by omega)).mono ?_
      rintro e w6 ⟨p3, rfl, hp3, hb6⟩
      rw [show [enc2 2 false (numB A), enc2 2 false (numB B)].flatten = enc2 2 false (numB A) ++ enc2 2 false (numB B) by simp] at hp3
      have H6 : Hid (Sl .u8 w6 p3 (sigB A B) ∧ Below w.heap.size w w6) := ⟨hp3.sl, below_via (below_via (below_via H3.out.2.2.2 H5.out.2.2.2 (Nat.le_refl _)) (al1 _) (Nat.le_refl _)) hb6 (Nat.le_refl _)⟩
      clear hp3 hb6
      go_wp2
      go_ret
      refine ⟨?_, H6.out.2⟩
      rw [HL.out]
      exact GiveUp.yes rfl ⟨_, rfl, H6.out.1⟩
    · have g2 : ¬ (n' : Int) ≤ 512 := by omega
      replace HL : Hid (layE A B = 1) := HL.out.trans (if_neg (by omega))
      go_enter Tryz.func57, Tryz.ntmps57
      go_wp2_with fail
      refine (demand_no 1).mono ?_
      rintro e w1 ⟨rfl, rfl⟩
      go_wp2
      refine ⟨rfl, ?_, Below.refl _ _⟩
      rw [HL.out]; exact GiveUp.no (by decide)
  · have g1 : ¬ (n : Int) ≤ 512 := by omega
    replace HL : Hid (layE A B = 1) := HL.out.trans (if_neg (by omega))
    go_enter Tryz.func57, Tryz.ntmps57
    go_wp2_with fail
    refine (demand_no 1).mono ?_
    rintro e w1 ⟨rfl, rfl⟩
    go_wp2
    refine ⟨rfl, ?_, Below.refl _ _⟩
    rw [HL.out]; exact GiveUp.no (by decide)
def BuildPost (A B : List Int) (w0 : World) (b2 : Nat) (n : Int) (w : World) : Prop :=
  n = layE A B ∧ Below w0.heap.size w0 w ∧ ∃ a2 n2 c2, Blk 25 w b2 [.slice a2 n2 c2] ∧ Sl .u8 w (.slice a2 n2 c2) (if layE A B = 0 then sigB A B else [])
set_option maxRecDepth 20000 in
set_option maxHeartbeats 4000000 in
theorem build1_any {w w0 : World} (v u : Value) (A B : List Int) (b0 b1 b2 b4 : Nat) (h0 : Blk 22 w b0 [v]) (h1 : Blk 22 w b1 [u]) (h2 : Blk 25 w b2 [.slice none 0 0]) (h4 : Blk 28 w b4 [.int .i64 0])
    (h24 : b4 ≠ b2) (hb2 : w0.heap.size ≤ b2) (hw : Below w0.heap.size w0 w) (hv : Sl .u32 w v A) (hu : Sl .u32 w u B) (uA : U32s A) (uB : U32s B) (lA : A.length ≤ 600) (lB : B.length ≤ 600) :
    Calls Tryz.prog 56 #[.pointer (some ⟨b0, 0, none⟩), .pointer (some ⟨b1, 0, none⟩), .pointer (some ⟨b2, 0, none⟩)] w fun e w1 =>
      Blk 28 w1 b4 [.int .i64 0] ∧ ((e = .returned (.tuple #[]) ∧ BuildPost A B w0 b2 0 w1) ∨ ∃ n, e = .panicked [{ v := refu n, recovered := false }] ∧ BuildPost A B w0 b2 n w1) := by
  have HR : Hid (Calls Tryz.prog 57 #[v, u] w fun e w' => LayAns A B w w' e) := lay_any v u A B hv hu uA uB lA lB
  obtain ⟨va, vn, vc, rfl⟩ := sl_is hv
  obtain ⟨ua, un, uc, rfl⟩ := sl_is hu
  have c0 : w.cell? ⟨b0, 0, none⟩ = some (.slice va vn vc) := h0.cell 0
  have c1 : w.cell? ⟨b1, 0, none⟩ = some (.slice ua un uc) := h1.cell 0
  have HH : Hid (Blk 25 w b2 [.slice none 0 0] ∧ Blk 28 w b4 [.int .i64 0] ∧ Below w0.heap.size w0 w) := ⟨h2, h4, hw⟩
  clear h0 h1 h2 h4 hw hv hu
  go_enter Tryz.func56, Tryz.ntmps56
  go_wp2_with fail
  refine HR.out.mono ?_
  rintro e w1 ⟨hg, hb⟩
  have k2 := below_blk hb HH.out.1.lt HH.out.1
  have k4 := below_blk hb HH.out.2.1.lt HH.out.2.1
  have hw1 : Below w0.heap.size w0 w1 := below_via HH.out.2.2 hb (Nat.le_refl _)
  by_cases h0 : layE A B = 0
  · unfold GiveUp at hg
    rw [if_pos h0] at hg
    obtain ⟨r, rfl, hr⟩ := hg
    obtain ⟨a2, n2, c2, rfl⟩ := sl_is hr
    have d2 : w1.cell? ⟨b2, 0, none⟩ = some (.slice none 0 0) := k2.cell 0
    have f2 := k2.frozen 0
    have u2 := Upd.set w1 b2 0 (.slice a2 n2 c2)
    have m2 : Blk 25 (w1.setCell ⟨b2, 0, none⟩ (.slice a2 n2 c2)) b2 [.slice a2 n2 c2] := k2.set 0 _
    have HP : Hid (Blk 28 (w1.setCell ⟨b2, 0, none⟩ (.slice a2 n2 c2)) b4 [.int .i64 0] ∧ BuildPost A B w0 b2 0 (w1.setCell ⟨b2, 0, none⟩ (.slice a2 n2 c2))) :=
      ⟨u2.blk k4 h24, h0.symm, u2.below hw1 hw1.size hb2, a2, n2, c2, m2, by rw [if_pos h0]; exact sl_upd hr k2 slice_nn u2⟩
    clear hr k2 k4 u2 m2 hb hw1
    go_wp2
    go_end0
    exact ⟨HP.out.1, .inl ⟨rfl, HP.out.2⟩⟩
  · unfold GiveUp at hg
    rw [if_neg h0] at hg
    subst hg
    have HP : Hid (Blk 28 w1 b4 [.int .i64 0] ∧ BuildPost A B w0 b2 (layE A B) w1) := ⟨k4, rfl, hw1, none, 0, 0, k2, by rw [if_neg h0]; exact Sl.nil0 _ _⟩
    clear k2 k4 hb hw1
    go_wp2
    exact ⟨rfl, HP.out.1, .inr ⟨_, rfl, HP.out.2⟩⟩
def BuildAns (A B : List Int) (w w' : World) (e : Ending) : Prop := ∃ r, e = .returned (.tuple #[r, .int .i64 (layE A B)]) ∧ Sl .u8 w' r (if layE A B = 0 then sigB A B else []) ∧ Below w.heap.size w w'
theorem enter25 (caps : Array Value) (w : World) : (callFunc 56 caps).run Tryz.prog w = .ok (.enter 56 caps) w := by
  simp [go_sem]
set_option maxRecDepth 20000 in
set_option maxHeartbeats 4000000 in
theorem Build_any {w : World} (v u : Value) (A B : List Int) (hv : Sl .u32 w v A) (hu : Sl .u32 w u B) (uA : U32s A) (uB : U32s B) (lA : A.length ≤ 600) (lB : B.length ≤ 600) :
    Calls Tryz.prog 23 #[v, u] w fun e w' => BuildAns A B w w' e := by
  have hmf : ∀ (fn : Fn) (first cap : Array Value) (w : World), (Instr.makeFunc fn first cap).run Tryz.prog w = .ok (.func fn first cap) w := fun _ _ _ _ => rfl
  obtain ⟨va, vn, vc, rfl⟩ := sl_is hv
  obtain ⟨ua, un, uc, rfl⟩ := sl_is hu
  have HX : Hid (Sl .u32 w (.slice va vn vc) A ∧ Sl .u32 w (.slice ua un uc) B ∧ U32s A ∧ U32s B ∧ A.length ≤ 600 ∧ B.length ≤ 600) := ⟨hv, hu, uA, uB, lA, lB⟩
  clear hv hu uA uB lA lB
  go_enter Tryz.func23, Tryz.ntmps23
  go_wp2_with fail
  have t1 : Blk 22 (w.alloc (.cells #[.slice va vn vc] 22)) w.heap.size [.slice va vn vc] := Blk.new ..
  have t2 : Blk 22 ((w.alloc (.cells #[.slice va vn vc] 22)).alloc (.cells #[.slice ua un uc] 22)) (w.heap.size + 1) [.slice ua un uc] := by simpa using Blk.new 22 (w.alloc (.cells #[.slice va vn vc] 22)) [.slice ua un uc]
  obtain ⟨W, hW⟩ : ∃ W, (((w.alloc (.cells #[.slice va vn vc] 22)).alloc (.cells #[.slice ua un uc] 22)).alloc (.cells #[.slice none 0 0] 25)) = W := ⟨_, rfl⟩
  have t3 : Blk 25 W (w.heap.size + 1 + 1) [.slice none 0 0] := by rw [← hW]; simpa using Blk.new 25 ((w.alloc (.cells #[.slice va vn vc] 22)).alloc (.cells #[.slice ua un uc] 22)) [.slice none 0 0]
  have hB : Below w.heap.size w W := by rw [← hW]; exact below_via (below_via (al1 _) (al1 _) (Nat.le_refl _)) (al1 _) (Nat.le_refl _)
  have hs : W.heap.size = w.heap.size + 1 + 1 + 1 := by rw [← hW]; simp
  have HW : Hid (Blk 22 W w.heap.size [.slice va vn vc] ∧ Blk 22 W (w.heap.size + 1) [.slice ua un uc] ∧ Blk 25 W (w.heap.size + 1 + 1) [.slice none 0 0] ∧ Below w.heap.size w W ∧ W.heap.size = w.heap.size + 1 + 1 + 1) := ⟨by rw [← hW]; exact (t1.alloc _).alloc _, by rw [← hW]; exact t2.alloc _, t3, hB, hs⟩
  rw [hW]
  clear t1 t2 t3 hB hs hW
  refine (attempt_any 56 _ (BuildPost A B w (w.heap.size + 1 + 1)) (enter25 _) ?_).mono ?_
  · obtain ⟨t1, t2, t3, hB, hs⟩ := HW.out
    have hB' := below_via hB (al1 (w := W) (.cells #[.int .i64 0] 28)) (Nat.le_refl _)
    exact build1_any (w0 := w) _ _ A B w.heap.size (w.heap.size + 1) (w.heap.size + 1 + 1) W.heap.size (t1.alloc _) (t2.alloc _) (t3.alloc _) (Blk.new ..) (by omega) (by omega) hB' (below_sl hB' HX.out.1) (below_sl hB' HX.out.2.1) HX.out.2.2.1 HX.out.2.2.2.1 HX.out.2.2.2.2.1 HX.out.2.2.2.2.2
  rintro e w2 ⟨n, w1, rfl, ⟨rfl, hb1, a2, n2, c2, k2, s2⟩, k4, hU⟩
  have hs := HW.out.2.2.2.2
  have j2 := hU.blk k2 (by omega)
  have i4 : ∀ c ∈ [Value.int .i64 0], ∀ n, c ≠ .int .u8 n := by intro c hc n; rw [List.mem_singleton] at hc; subst hc; intro h; cases h
  have hb2 : Below w.heap.size w w2 := hU.below hb1 hb1.size (by omega)
  have HP : Hid (Sl .u8 w2 (.slice a2 n2 c2) (if layE A B = 0 then sigB A B else []) ∧ Below w.heap.size w w2) := ⟨sl_upd s2 k4 i4 hU, hb2⟩
  have d2 : w2.cell? ⟨w.heap.size + 1 + 1, 0, none⟩ = some (.slice a2 n2 c2) := j2.cell 0
  clear hs j2 i4 hb2 hU k2 k4 s2 hb1 HW HX
  go_wp2
  go_ret2
  exact ⟨_, rfl, HP.out⟩
end Go.Proofs.YtedoghjefdkmaaaGreat
/-
  Ecdsa: Key.
-/
namespace Go.Proofs.YtedoghjefdkmaaaGreat
open Go.RowKit
set_option maxHeartbeats 1000000 in
theorem EisFar {w : World} (vx vy : Value) (X Y : List Int) (hX : Sl .u32 w vx X) (hY : Sl .u32 w vy Y) (uX : U32s X) (uY : U32s Y) (lX : X.length ≤ 1000000) (lY : Y.length ≤ 1000000) :
    Calls Tryz.prog 62 #[.agg #[vx, vy]] w fun e w' => e = .returned (.bool (farB X Y)) ∧ Below w.heap.size w w' := by
  have HX : Hid (∀ W, Below w.heap.size w W → Calls Tryz.prog 102 #[vx] W fun e w' => e = .returned (.int .i64 (bitLen (val X).toNat)) ∧ Below W.heap.size W w') := fun W hW => Nt.Bits_any X vx W (below_sl hW hX) uX (by omega)
  have HY : Hid (∀ W, Below w.heap.size w W → Calls Tryz.prog 102 #[vy] W fun e w' => e = .returned (.int .i64 (bitLen (val Y).toNat)) ∧ Below W.heap.size W w') := fun W hW => Nt.Bits_any Y vy W (below_sl hW hY) uY (by omega)
  have HF : Hid (farB X Y = (((bitLen (val X).toNat : Int) == 0) && ((bitLen (val Y).toNat : Int) == 0))) := by
    show _ = _
    unfold farB
    have h1 := bits0 uX
    have h2 := bits0 uY
    by_cases a : val X = 0 <;> by_cases b : val Y = 0
    · have e1 := h1.2 a; have e2 := h2.2 b; rw [e1, e2]; simp [a, b]
    · simp [a, b]; intro _; exact fun h => b (h2.1 (by omega))
    · simp [a, b]; intro h; exact absurd (h1.1 (by omega)) a
    · simp [a, b]; intro h; exact absurd (h1.1 (by omega)) a
  obtain ⟨x, hx⟩ : ∃ x, bitLen (val X).toNat = x := ⟨_, rfl⟩
  obtain ⟨y, hy⟩ : ∃ y, bitLen (val Y).toNat = y := ⟨_, rfl⟩
  rw [hx] at HX HF
  rw [hy] at HY HF
  clear hX hY uX uY lX lY hx hy
  go_enter Tryz.func62, Tryz.ntmps62
  go_upto_region 1 with (refine wpList_boxR rfl 24 (.tmp 0) rfl #[vx, vy] rfl ?_)
  refine wp_gen (fun W => Blk 24 W w.heap.size [vx, vy] ∧ Below w.heap.size w W) ⟨Blk.new _ w _, al1 _⟩ ?_
  rintro W2 ⟨hB, hBw⟩
  have hc0 : W2.cell? ⟨w.heap.size, 0, none⟩ = some vx := hB.cell 0
  have H2 : Hid (Below w.heap.size w W2 ∧ ∀ W3, Below W2.heap.size W2 W3 → W3.cell? ⟨w.heap.size, 1, none⟩ = some vy ∧ Below w.heap.size w W3) := ⟨hBw, fun W3 h3 => ⟨(below_blk h3 hB.lt hB).cell 1, below_via hBw h3 (Nat.le_refl _)⟩⟩
  clear hB hBw
  by_cases h0 : x = 0
  · have d0 : ((x : Int) == 0) = true := by simp [h0]
    have HF2 : Hid (farB X Y = ((y : Int) == 0)) := by show _ = _; rw [HF.out, d0]; rfl
    clear h0 HF
    go_wp2_with fail
    refine (HX.out _ H2.out.1).mono ?_
    rintro e w3 ⟨rfl, hb3⟩
    have hc1 := (H2.out.2 _ hb3).1
    have H3 : Hid (Below w.heap.size w w3) := (H2.out.2 _ hb3).2
    clear hb3 hc0
    go_wp2_with (go_at_call 102; refine (HY.out _ H3.out).mono ?_; rintro e w4 ⟨rfl, hb4⟩; have H4 : Hid (Below w.heap.size w w4) := below_via H3.out hb4 (Nat.le_refl _); clear hb4)
    go_ret
    exact ⟨by rw [HF2.out]; rfl, H4.out⟩
  · have d0 : ((x : Int) == 0) = false := by simp; exact h0
    have HF2 : Hid (farB X Y = false) := by show _ = _; rw [HF.out, d0]; rfl
    clear h0 HF
    go_wp2_with (go_at_call 102; refine (HX.out _ H2.out.1).mono ?_; rintro e w3 ⟨rfl, hb3⟩; have H3 : Hid (Below w.heap.size w w3) := (H2.out.2 _ hb3).2; clear hb3)
    go_ret
    exact ⟨by rw [HF2.out]; rfl, H3.out⟩
/-- What Key tells. -/
def keyS (c : Int) (X Y : List Int) : Int := if crvN (·.sz) (crv c) = 0 then 1 else if (onC c X Y && !farB X Y) = true then 0 else 80
set_option maxRecDepth 20000 in
set_option maxHeartbeats 4000000 in
theorem demandKey_any {w : World} (c : Int) (a1 : Option Addr) (n1 c1 : Nat) (a2 : Option Addr) (n2 c2 : Nat) (X Y : List Int) (hX : Sl .u32 w (.slice a1 n1 c1) X) (hY : Sl .u32 w (.slice a2 n2 c2) Y) (uX : U32s X) (uY : U32s Y) (lX : X.length ≤ 1000000) (lY : Y.length ≤ 1000000) :
    Calls Tryz.prog 27 #[.int .i64 c, .agg #[.slice a1 n1 c1, .slice a2 n2 c2]] w fun e w' => GiveUp (keyS c X Y) e (e = .returned (.tuple #[])) ∧ Below w.heap.size w w' := by
  have HO : Hid (∀ W, Below w.heap.size w W → Calls Tryz.prog 61 #[.int .i64 c, .agg #[.slice a1 n1 c1, .slice a2 n2 c2]] W fun e w' => e = .returned (.bool (onC c X Y)) ∧ Below W.heap.size W w') := fun W h => On_any c _ _ X Y (below_sl h hX) (below_sl h hY) uX uY lX lY
  have HF : Hid (∀ W, Below w.heap.size w W → Calls Tryz.prog 62 #[.agg #[.slice a1 n1 c1, .slice a2 n2 c2]] W fun e w' => e = .returned (.bool (farB X Y)) ∧ Below W.heap.size W w') := fun W h => EisFar _ _ X Y (below_sl h hX) (below_sl h hY) uX uY lX lY
  have HS : Hid (∀ W : World, Calls Tryz.prog 31 #[.int .i64 c] W fun e w' => e = .returned (.int .i64 (crvN (·.sz) (crv c) : Nat)) ∧ Below W.heap.size W w') := fun W => Size_any c
  have HK : Hid (keyS c X Y = if crvN (·.sz) (crv c) = 0 then 1 else if (onC c X Y && !farB X Y) = true then 0 else 80) := rfl
  obtain ⟨sz, hsz⟩ : ∃ sz, crvN (·.sz) (crv c) = sz := ⟨_, rfl⟩
  obtain ⟨K, hK⟩ : ∃ K, keyS c X Y = K := ⟨_, rfl⟩
  obtain ⟨bo, hbo⟩ : ∃ b, onC c X Y = b := ⟨_, rfl⟩
  obtain ⟨bf, hbf⟩ : ∃ b, farB X Y = b := ⟨_, rfl⟩
  rw [hsz] at HS
  rw [hsz, hK, hbo, hbf] at HK
  rw [hbo] at HO
  rw [hbf] at HF
  rw [hK]
  clear hX hY uX uY lX lY hsz hK hbo hbf
  by_cases hz : sz = 0
  · subst hz
    obtain rfl : K = 1 := HK.out
    go_enter Tryz.func27, Tryz.ntmps27
    go_wp2_with fail
    refine (HS.out _).mono ?_
    rintro e w1 ⟨rfl, hb1⟩
    have H1 : Hid (Below w.heap.size w w1) := below_via (al1 _) hb1 (Nat.le_refl _)
    clear hb1
    go_wp2_with fail
    refine (demand_no 1).mono ?_
    rintro e w2 ⟨rfl, rfl⟩
    go_wp2
    exact ⟨rfl, GiveUp.no (by decide), H1.out⟩
  · replace HK : Hid (K = if (bo && !bf) = true then 0 else 80) := HK.out.trans (if_neg hz)
    have hz0 : (0 : Int) < (sz : Int) := by omega
    have hz1 : 0 < sz := by omega
    go_enter Tryz.func27, Tryz.ntmps27
    go_wp2_with fail
    refine (HS.out _).mono ?_
    rintro e w1 ⟨rfl, hb1⟩
    have H1 : Hid (Below w.heap.size w w1 ∧ Blk 24 w1 w.heap.size [.slice a1 n1 c1, .slice a2 n2 c2]) := ⟨below_via (al1 _) hb1 (Nat.le_refl _), below_blk hb1 (by simp) (Blk.new _ w _)⟩
    have q0 : w1.cell? ⟨w.heap.size, 0, none⟩ = some (.slice a1 n1 c1) := H1.out.2.cell 0
    have q1 : w1.cell? ⟨w.heap.size, 1, none⟩ = some (.slice a2 n2 c2) := H1.out.2.cell 1
    clear hb1
    go_wp2_with fail
    refine (demand_yes 1).mono ?_
    rintro e w2 ⟨rfl, rfl⟩
    go_wp2_with fail
    refine (HO.out _ H1.out.1).mono ?_
    rintro e w3 ⟨rfl, hb3⟩
    have H3 : Hid (Below w.heap.size w w3) := below_via H1.out.1 hb3 (Nat.le_refl _)
    have k3 := below_blk hb3 H1.out.2.lt H1.out.2
    have g0 : w3.cell? ⟨w.heap.size, 0, none⟩ = some (.slice a1 n1 c1) := k3.cell 0
    have g1 : w3.cell? ⟨w.heap.size, 1, none⟩ = some (.slice a2 n2 c2) := k3.cell 1
    clear hb3 q0 q1 k3
    cases bo with
    | false =>
      obtain rfl : K = 80 := HK.out
      go_wp2_with fail
      refine (demand_no 80).mono ?_
      rintro e w4 ⟨rfl, rfl⟩
      go_wp2
      exact ⟨rfl, GiveUp.no (by decide), H3.out⟩
    | true =>
      go_wp2_with fail
      refine (HF.out _ H3.out).mono ?_
      rintro e w4 ⟨rfl, hb4⟩
      have H4 : Hid (Below w.heap.size w w4) := below_via H3.out hb4 (Nat.le_refl _)
      clear hb4 g0 g1
      cases bf with
      | true =>
        obtain rfl : K = 80 := HK.out
        go_wp2_with fail
        refine (demand_no 80).mono ?_
        rintro e w5 ⟨rfl, rfl⟩
        go_wp2
        exact ⟨rfl, GiveUp.no (by decide), H4.out⟩
      | false =>
        obtain rfl : K = 0 := HK.out
        go_wp2_with fail
        refine (demand_yes 80).mono ?_
        rintro e w5 ⟨rfl, rfl⟩
        go_wp2
        go_end0
        exact ⟨GiveUp.yes rfl rfl, H4.out⟩
def KeyPost (c : Int) (X Y : List Int) (w0 : World) (n : Int) (w : World) : Prop := n = keyS c X Y ∧ Below w0.heap.size w0 w
set_option maxRecDepth 20000 in
theorem key1_any {w w0 : World} (c : Int) (a1 : Option Addr) (n1 c1 : Nat) (a2 : Option Addr) (n2 c2 : Nat) (X Y : List Int) (b0 b1 b4 : Nat) (h0 : Blk 3 w b0 [.int .i64 c]) (h1 : Blk 24 w b1 [.slice a1 n1 c1, .slice a2 n2 c2]) (h4 : Blk 28 w b4 [.int .i64 0])
    (hw : Below w0.heap.size w0 w) (hX : Sl .u32 w (.slice a1 n1 c1) X) (hY : Sl .u32 w (.slice a2 n2 c2) Y) (uX : U32s X) (uY : U32s Y) (lX : X.length ≤ 1000000) (lY : Y.length ≤ 1000000) :
    Calls Tryz.prog 26 #[.pointer (some ⟨b0, 0, none⟩), .pointer (some ⟨b1, 0, none⟩)] w fun e w1 =>
      Blk 28 w1 b4 [.int .i64 0] ∧ ((e = .returned (.tuple #[]) ∧ KeyPost c X Y w0 0 w1) ∨ ∃ n, e = .panicked [{ v := refu n, recovered := false }] ∧ KeyPost c X Y w0 n w1) := by
  have HR : Hid (Calls Tryz.prog 27 #[.int .i64 c, .agg #[.slice a1 n1 c1, .slice a2 n2 c2]] w fun e w' => GiveUp (keyS c X Y) e (e = .returned (.tuple #[])) ∧ Below w.heap.size w w') := demandKey_any c a1 n1 c1 a2 n2 c2 X Y hX hY uX uY lX lY
  have d0 : w.cell? ⟨b0, 0, none⟩ = some (.int .i64 c) := h0.cell 0
  have d1 : w.cell? ⟨b1, 0, none⟩ = some (.slice a1 n1 c1) := h1.cell 0
  have d2 : w.cell? ⟨b1, 1, none⟩ = some (.slice a2 n2 c2) := h1.cell 1
  have HH : Hid (Blk 28 w b4 [.int .i64 0] ∧ Below w0.heap.size w0 w) := ⟨h4, hw⟩
  clear h0 h1 h4 hw hX hY uX uY lX lY
  go_enter Tryz.func26, Tryz.ntmps26
  go_wp2_with fail
  refine HR.out.mono ?_
  rintro e w1 ⟨hg, hb⟩
  have HP : Hid (Blk 28 w1 b4 [.int .i64 0] ∧ Below w0.heap.size w0 w1) := ⟨below_blk hb HH.out.1.lt HH.out.1, below_via HH.out.2 hb (Nat.le_refl _)⟩
  clear hb
  by_cases h0 : keyS c X Y = 0
  · unfold GiveUp at hg
    rw [if_pos h0] at hg
    subst hg
    go_wp2
    go_end0
    exact ⟨HP.out.1, .inl ⟨rfl, h0.symm, HP.out.2⟩⟩
  · unfold GiveUp at hg
    rw [if_neg h0] at hg
    subst hg
    go_wp2
    exact ⟨rfl, HP.out.1, .inr ⟨_, rfl, rfl, HP.out.2⟩⟩
theorem enter31 (caps : Array Value) (w : World) : (callFunc 26 caps).run Tryz.prog w = .ok (.enter 26 caps) w := by
  simp [go_sem]
set_option maxRecDepth 20000 in
set_option maxHeartbeats 4000000 in
theorem Key_any {w : World} (c : Int) (a1 : Option Addr) (n1 c1 : Nat) (a2 : Option Addr) (n2 c2 : Nat) (X Y : List Int) (hX : Sl .u32 w (.slice a1 n1 c1) X) (hY : Sl .u32 w (.slice a2 n2 c2) Y) (uX : U32s X) (uY : U32s Y) (lX : X.length ≤ 1000000) (lY : Y.length ≤ 1000000) :
    Calls Tryz.prog 9 #[.int .i64 c, .agg #[.slice a1 n1 c1, .slice a2 n2 c2]] w fun e w' => e = .returned (.int .i64 (keyS c X Y)) ∧ Below w.heap.size w w' := by
  have hmf : ∀ (fn : Fn) (first cap : Array Value) (w : World), (Instr.makeFunc fn first cap).run Tryz.prog w = .ok (.func fn first cap) w := fun _ _ _ _ => rfl
  have HX : Hid (Sl .u32 w (.slice a1 n1 c1) X ∧ Sl .u32 w (.slice a2 n2 c2) Y ∧ U32s X ∧ U32s Y ∧ X.length ≤ 1000000 ∧ Y.length ≤ 1000000) := ⟨hX, hY, uX, uY, lX, lY⟩
  clear hX hY uX uY lX lY
  go_enter Tryz.func9, Tryz.ntmps9
  go_wp2_with fail
  obtain ⟨W, hW⟩ : ∃ W, ((w.alloc (.cells #[.int .i64 c] 3)).alloc (.cells #[.slice a1 n1 c1, .slice a2 n2 c2] 24)) = W := ⟨_, rfl⟩
  have t1 : Blk 3 W w.heap.size [.int .i64 c] := by rw [← hW]; exact Blk.alloc (Blk.new ..) _
  have t2 : Blk 24 W (w.heap.size + 1) [.slice a1 n1 c1, .slice a2 n2 c2] := by rw [← hW]; simpa using Blk.new 24 (w.alloc (.cells #[.int .i64 c] 3)) [.slice a1 n1 c1, .slice a2 n2 c2]
  have hB : Below w.heap.size w W := by rw [← hW]; exact below_via (al1 _) (al1 _) (Nat.le_refl _)
  have hs : w.heap.size ≤ W.heap.size := hB.size
  rw [hW]
  refine (attempt_any 26 _ (KeyPost c X Y w) (enter31 _) ?_).mono ?_
  · have hB' := below_via hB (al1 (w := W) (.cells #[.int .i64 0] 28)) (Nat.le_refl _)
    exact key1_any (w0 := w) c a1 n1 c1 a2 n2 c2 X Y w.heap.size (w.heap.size + 1) W.heap.size (t1.alloc _) (t2.alloc _) (Blk.new ..) hB' (below_sl hB' HX.out.1) (below_sl hB' HX.out.2.1) HX.out.2.2.1 HX.out.2.2.2.1 HX.out.2.2.2.2.1 HX.out.2.2.2.2.2
  rintro e w2 ⟨n, w1, rfl, ⟨rfl, hb1⟩, k4, hU⟩
  have HP : Hid (Below w.heap.size w w2) := hU.below hb1 hb1.size (by omega)
  clear hU k4 hb1 hs hB t1 t2 hW
  go_wp2
  go_ret
  exact ⟨rfl, HP.out⟩
end Go.Proofs.YtedoghjefdkmaaaGreat
/-
  Ecdsa: the page's examples.
-/
namespace Go.Proofs.YtedoghjefdkmaaaGreat
open Go.RowKit
theorem sl_strX {w : World} {a : Option Addr} {n c : Nat} {X : List Int} (h : Sl .u8 w (.slice a n c) X) : Sem.run Tryz.prog (convert 25 9 (.slice a n c)) w = .ok (.string (strOfNums X)) w := by
  obtain ⟨a', c', hv, _, hx | ⟨b, off, rfl, _, hr⟩⟩ := h
  · simp only [Value.slice.injEq] at hv
    obtain ⟨rfl, rfl, rfl⟩ := hv
    subst hx
    rw [run_convert_bytes_string w _ _ _ _ _ c Tryz.und8 Tryz.e8 Tryz.str]
    cases a with
    | none => simp [Conv.bytesToString]; rfl
    | some p => simp [Conv.bytesToString, loadCells]; rfl
  · simp only [Value.slice.injEq] at hv
    obtain ⟨rfl, rfl, rfl⟩ := hv
    exact run_convert_bytes_arg w _ _ Tryz.und8 Tryz.e8 b off _ _ X rfl hr _ Tryz.str
theorem num10_any (x : Int) (w : World) : Calls Tryz.prog 8 #[.int .i64 x] w fun e w' => e = .returned (.int .i64 x) ∧ w = w' := by
  go_enter Tryz.func8, Tryz.ntmps8
  go_wp2
  go_ret
  exact ⟨rfl, rfl⟩
theorem ex1 : sigB [1] [255] = [48, 7, 2, 1, 1, 2, 2, 0, 255] := by decide +kernel
theorem ex2 : ecS [48, 7, 2, 1, 1, 2, 2, 0, 255] = ([1], [255], 0) := by decide +kernel
theorem ex3 : ecS [48, 3, 2, 1, 1] = ([], [], 30) := by decide +kernel
theorem ex4 : keyS 1 [] [] = 80 := by decide +kernel
theorem ex5 : layE [1] [255] = 0 := by decide
set_option maxRecDepth 100000 in
set_option maxHeartbeats 4000000 in
theorem live10_any {w : World} : Calls Tryz.prog 7 #[] w fun e w' => e = .returned (.bool true) ∧ Below w.heap.size w w' := by
  have u1 : U32s [1] := by intro x hx; simp at hx; subst hx; unfold U32; omega
  have u255 : U32s [255] := by intro x hx; simp at hx; subst hx; unfold U32; omega
  have H0 : Hid (∀ w : World, Sl .u32 ((w.alloc (.cells #[.int .u32 1] 39)).alloc (.cells #[.int .u32 255] 39)) (.slice (some ⟨w.heap.size, 0, none⟩) 1 1) [1] ∧ Sl .u32 ((w.alloc (.cells #[.int .u32 1] 39)).alloc (.cells #[.int .u32 255] 39)) (.slice (some ⟨w.heap.size + 1, 0, none⟩) 1 1) [255] ∧ U32s [1] ∧ U32s [255]) := fun w =>
    ⟨sl_alloc (Arr.sl (S := [1]) (arr_nw rfl rfl)) _, Arr.sl (S := [255]) (arr_nw (by simp) rfl), u1, u255⟩
  clear u1 u255
  go_enter Tryz.func7, Tryz.ntmps7
  go_wp2_with fail
  refine (Build_any _ _ [1] [255] (H0.out w).1 (H0.out w).2.1 (H0.out w).2.2.1 (H0.out w).2.2.2 (by decide) (by decide)).mono ?_
  rintro e w1 ⟨r, rfl, hr, hb⟩
  rw [ex5, if_pos rfl, ex1] at hr
  rw [ex5]
  obtain ⟨a, n, c, rfl⟩ := sl_is hr
  have H1 : Hid (Sl .u8 w1 (.slice a n c) [48, 7, 2, 1, 1, 2, 2, 0, 255] ∧ Below w.heap.size w w1) := ⟨hr, below_via (below_via (al1 _) (al1 _) (Nat.le_refl _)) hb (Nat.le_refl _)⟩
  clear hr hb
  go_wp2_with fail
  refine (Parse_any _ [48, 7, 2, 1, 1, 2, 2, 0, 255] H1.out.1 (by intro x hx; simp at hx; unfold U8; omega) (by decide)).mono ?_
  rintro e w2 ⟨r2, s2, rfl, hr2, hs2, hb2⟩
  rw [ex2] at hr2 hs2
  rw [ex2]
  simp only [] at hr2 hs2 ⊢
  obtain ⟨a2, n2, c2, rfl⟩ := sl_is hr2
  obtain ⟨a3, n3, c3, rfl⟩ := sl_is hs2
  have H2 : Hid (Sl .u8 w2 (.slice a n c) [48, 7, 2, 1, 1, 2, 2, 0, 255] ∧ Sl .u32 w2 (.slice a2 n2 c2) [1] ∧ Sl .u32 w2 (.slice a3 n3 c3) [255] ∧ Below w.heap.size w w2) := ⟨below_sl hb2 H1.out.1, hr2, hs2, below_via H1.out.2 hb2 (Nat.le_refl _)⟩
  clear hr2 hs2 hb2 H1
  go_wp2_with fail
  refine (Parse_any _ [48, 3, 2, 1, 1] (Arr.sl (S := [48, 3, 2, 1, 1]) (arr_nw rfl rfl)) (by intro x hx; simp at hx; unfold U8; omega) (by decide)).mono ?_
  rintro e w3 ⟨r3, s3, rfl, hr3, hs3, hb3⟩
  rw [ex3]
  simp only [] at hr3 hs3 ⊢
  obtain ⟨a4, n4, c4, rfl⟩ := sl_is hr3
  obtain ⟨a5, n5, c5, rfl⟩ := sl_is hs3
  have H3 : Hid (Sl .u8 w3 (.slice a n c) [48, 7, 2, 1, 1, 2, 2, 0, 255] ∧ Sl .u32 w3 (.slice a2 n2 c2) [1] ∧ Sl .u32 w3 (.slice a3 n3 c3) [255] ∧ Below w.heap.size w w3) := by
    have hb := below_via (al1 (w := w2) (.cells #[.int .u8 48, .int .u8 3, .int .u8 2, .int .u8 1, .int .u8 1] 5)) hb3 (Nat.le_refl _)
    exact ⟨below_sl hb H2.out.1, below_sl hb H2.out.2.1, below_sl hb H2.out.2.2.1, below_via H2.out.2.2.2 hb (Nat.le_refl _)⟩
  clear hr3 hs3 hb3 H2
  have hcv : Sem.run Tryz.prog (convert 25 9 (.slice a n c)) w3 = .ok (.string ⟨#[48, 7, 2, 1, 1, 2, 2, 0, 255]⟩) w3 := by
    rw [sl_strX H3.out.1]; rfl
  go_wp2_with fail
  refine (num10_any _ _).mono ?_
  rintro e w4 ⟨rfl, rfl⟩
  go_wp2_with fail
  refine (num10_any _ _).mono ?_
  rintro e w4 ⟨rfl, rfl⟩
  go_wp2_with fail
  refine (NSame_any _ _ [1] (sl_alloc H3.out.2.1 _) (Arr.sl (S := [1]) (arr_nw rfl rfl)) (by decide)).mono ?_
  rintro e w4 ⟨rfl, hb4⟩
  have H4 : Hid (Sl .u32 w4 (.slice a3 n3 c3) [255] ∧ Below w.heap.size w w4) := by
    have hb := below_via (al1 (w := w3) (.cells #[.int .u32 1] 39)) hb4 (Nat.le_refl _)
    exact ⟨below_sl hb H3.out.2.2.1, below_via H3.out.2.2.2 hb (Nat.le_refl _)⟩
  clear hb4 H3 hcv
  go_wp2_with fail
  refine (NSame_any _ _ [255] (sl_alloc H4.out.1 _) (Arr.sl (S := [255]) (arr_nw rfl rfl)) (by decide)).mono ?_
  rintro e w5 ⟨rfl, hb5⟩
  have H5 : Hid (Below w.heap.size w w5) := below_via (below_via H4.out.2 (al1 _) (Nat.le_refl _)) hb5 (Nat.le_refl _)
  clear hb5 H4
  go_wp2_with fail
  refine (num10_any _ _).mono ?_
  rintro e w6 ⟨rfl, rfl⟩
  go_wp2_with fail
  refine (Key_any 1 none 0 0 none 0 0 [] [] (Sl.nil0 _ _) (Sl.nil0 _ _) (by intro x hx; cases hx) (by intro x hx; cases hx) (by decide) (by decide)).mono ?_
  rintro e w6 ⟨rfl, hb6⟩
  rw [ex4]
  have H6 : Hid (Below w.heap.size w w6) := below_via H5.out hb6 (Nat.le_refl _)
  clear hb6
  go_wp2_with fail
  refine (num10_any _ _).mono ?_
  rintro e w7 ⟨rfl, rfl⟩
  go_wp2
  go_ret
  exact ⟨rfl, H6.out⟩
end Go.Proofs.YtedoghjefdkmaaaGreat
/-
  Curve: digit, Base.
-/
namespace Go.Proofs.YtedoghjefdkmaaaGreat
open Go.RowKit
set_option maxRecDepth 20000
set_option maxHeartbeats 1000000 in
theorem digit_any (X : List Int) (i : Nat) (v : Value) (w : World) (hX : Sl .u32 w v X) (uX : U32s X) (hi : i < 1073741824) (hl : X.length ≤ 1073741824) :
    Calls Tryz.prog 140 #[v, .int .i64 i] w fun e w' => e = .returned (.int .u32 ((val X).toNat / 2 ^ i % 2 : Nat)) ∧ w = w' := by
  obtain ⟨a, c, rfl, hc, h1⟩ := hX
  obtain ⟨y, hy⟩ : ∃ y, X.getD (i / 32) 0 = y := ⟨_, rfl⟩
  have uy : U32 y := hy ▸ uX.at _
  obtain ⟨u1, u2⟩ := uy
  obtain ⟨m, hm⟩ : ∃ m, i / 32 = m := ⟨_, rfl⟩
  obtain ⟨s, hs⟩ : ∃ s, i % 32 = s := ⟨_, rfl⟩
  have HE : Hid ((val X).toNat / 2 ^ i % 2 = y.toNat / 2 ^ s % 2) := by
    rw [← Nt.bit_eq, Nt.getD_div X _ uX, hy, hs]; rfl
  have hmi : (i : Int) / 32 = m := by omega
  have hsi : (i : Int) % 32 = s := by omega
  have hs32 : s < 32 := by omega
  have hm0 : m < 1073741824 := by omega
  have hp : 0 < (2 : Int) ^ s := Int.pow_pos (by decide)
  have hd0 : 0 ≤ y / 2 ^ s := Int.ediv_nonneg u1 (Int.le_of_lt hp)
  have hd1 : y / 2 ^ s < 4294967296 := Int.lt_of_le_of_lt (Int.ediv_le_self _ u1) u2
  have hand := Nt.and1 (y / 2 ^ s) hd0 hd1
  by_cases hmX : m < X.length
  · rcases h1 with rfl | ⟨b, o, rfl, hb, hr⟩
    · simp at hmX
    have hcell := hr (i / 32) (by omega)
    rw [hy, hm] at hcell
    clear hr hy hm hs
    go_enter Tryz.func140, Tryz.ntmps140
    go_wp2
    go_ret
    refine ⟨?_, rfl⟩
    rw [HE.out]
    obtain ⟨n, rfl⟩ := Int.eq_ofNat_of_zero_le u1
    have e1 : ((n / 2 ^ s % 2 : Nat) : Int) = (n : Int) / 2 ^ s % 2 := by simp
    exact congrArg (fun b => Ending.returned (Value.int .u32 b)) e1.symm
  · have h0 : y = 0 := by rw [← hy, hm, List.getD_eq_getElem?_getD, List.getElem?_eq_none (by omega)]; rfl
    subst h0
    have hmX2 : X.length ≤ m := by omega
    clear h1 hy hm hs hand hd0 hd1 hp u1 u2 hmX
    go_enter Tryz.func140, Tryz.ntmps140
    go_wp2
    go_ret
    refine ⟨?_, rfl⟩
    rw [HE.out]
    have e1 : ((0 : Int).toNat / 2 ^ s % 2 : Nat) = 0 := by simp
    rw [e1]; rfl
theorem newPt (w : World) : Blk 24 (w.alloc (.cells #[.slice none 0 0, .slice none 0 0] 24)) w.heap.size [.slice none 0 0, .slice none 0 0] := Blk.new _ w [.slice none 0 0, .slice none 0 0]
theorem noInts : ∀ c ∈ [Value.slice none 0 0, Value.slice none 0 0], ∀ n, c ≠ .int .u32 n := by intro c hc; simp at hc; subst hc; intro n h; cases h
end Go.Proofs.YtedoghjefdkmaaaGreat
/-
  The reference's digits: less.
-/
namespace Go.Proofs.YtedoghjefdkmaaaGreat
open Go.RowKit
set_option maxRecDepth 20000
/-- Thirteen digits of 32 bits, as a value. -/
def dgA (A : List Int) : Value := .agg (A.map (Value.int .u64)).toArray
theorem Tryz.sizeDg : (Tryz.prog.info? 85).map (·.size) = some 13 := by kernel_rfl
set_option maxHeartbeats 2000000 in
theorem less_any {w : World} (A B : List Int) (uA : U32s A) (uB : U32s B) (lA : A.length = 13) (lB : B.length = 13) :
    Calls Tryz.prog 104 #[dgA A, dgA B] w fun e w' => e = .returned (.bool (decide (val A < val B))) ∧ Below w.heap.size w w' := by
  have HA : Hid (U32s A ∧ U32s B) := ⟨uA, uB⟩
  unfold dgA
  go_enter Tryz.func104, Tryz.ntmps104
  go_upto_region 1 with (first
    | refine wpList_boxR rfl 85 (.tmp 0) rfl (A.map (Value.int .u64)).toArray rfl ?_
    | refine wpList_boxR rfl 85 (.tmp 1) rfl (B.map (Value.int .u64)).toArray rfl ?_)
  refine wp_gen (fun W => Blk 85 W w.heap.size (A.map (Value.int .u64)) ∧ Blk 85 W (w.heap.size + 1) (B.map (Value.int .u64)) ∧ Below w.heap.size w W) ⟨(Blk.new _ w _).alloc _, by have := Blk.new 85 (w.alloc (.cells (A.map (Value.int .u64)).toArray 85)) (B.map (Value.int .u64)); rw [World.size_alloc] at this; exact this, (al1 _).alloc (by simp) _⟩ ?_
  rintro W2 ⟨hA, hB, hBw⟩
  have H2 : Hid (Below w.heap.size w W2) := hBw
  have hA2 : Arr .u64 85 W2 w.heap.size A := hA.arr
  have hB2 : Arr .u64 85 W2 (w.heap.size + 1) B := hB.arr
  have HR : Hid (∀ W3, Below W2.heap.size W2 W3 → (Below w.heap.size w W3 ∧ ∀ k, k < 13 → W3.cell? ⟨w.heap.size, k, none⟩ = some (.int .u64 (A.getD k 0)) ∧ W3.cell? ⟨w.heap.size + 1, k, none⟩ = some (.int .u64 (B.getD k 0)))) := fun W3 h3 => ⟨below_via hBw h3 (Nat.le_refl _), fun k hk => ⟨(below_arr h3 hA2.lt hA2).cell k (by omega), (below_arr h3 hB2.lt hB2).cell k (by omega)⟩⟩
  clear hA hB hBw hA2 hB2 H2
  have HZ : Hid (∀ j, 13 ≤ j → A.getD j 0 = B.getD j 0) := fun j hj => by simp [List.getD_eq_getElem?_getD, List.getElem?_eq_none (show A.length ≤ j by omega), List.getElem?_eq_none (show B.length ≤ j by omega)]
  clear uA uB lA lB
  go_wp2
  go_loopw [5] (fun i wr => ∃ k : Nat, i = .int .i64 ((k : Int) - 1) ∧ k ≤ 13 ∧ Hid (∀ j, k ≤ j → A.getD j 0 = B.getD j 0) ∧ Hid (Below W2.heap.size W2 wr)) (fun i _ => ((intOf i) + 1).toNat)
  case atStart => exact ⟨13, by go_num, Nat.le_refl _, HZ.out, Below.refl _ _⟩
  case round =>
    clear HZ
    obtain ⟨k, rfl, hk, HK, H3⟩ := hrel
    cases k with
    | zero =>
      have HE : Hid (decide (val A < val B) = false) := by
        have h : val A = val B := Nt.val_ext _ _ (fun j => HK.out j (Nat.zero_le _))
        show _ = _; rw [h]; simp
      clear HK
      rw [show ((0 : Nat) : Int) - 1 = -1 from rfl]
      go_wp2
      go_ret
      exact ⟨by rw [HE.out]; rfl, (HR.out _ H3.out).1⟩
    | succ m =>
      obtain ⟨h1, h2⟩ := (HR.out _ H3.out).2 m (by omega)
      obtain ⟨x, hx⟩ : ∃ x, A.getD m 0 = x := ⟨_, rfl⟩
      obtain ⟨y, hy⟩ : ∃ y, B.getD m 0 = y := ⟨_, rfl⟩
      rw [hx] at h1; rw [hy] at h2
      have HX : Hid (A.getD m 0 = x ∧ B.getD m 0 = y) := ⟨hx, hy⟩
      have hi : ((m + 1 : Nat) : Int) - 1 = m := by omega
      rw [hi]
      have ux : U32 x := hx ▸ HA.out.1.at m
      have uy : U32 y := hy ▸ HA.out.2.at m
      obtain ⟨ux1, ux2⟩ := ux
      obtain ⟨uy1, uy2⟩ := uy
      clear hx hy hi
      rcases Int.lt_trichotomy x y with hlt | rfl | hlt
      · have HE : Hid (decide (val A < val B) = true) := by
          have h : val A < val B := Nt.val_lt_of m A B HA.out.1 HA.out.2 (fun j hj => HK.out j hj) (by rw [HX.out.1, HX.out.2]; exact hlt)
          show _ = _; simpa using h
        go_wp2
        go_quiet (fail)
        go_wp2
        go_quiet (fail)
        go_wp2
        go_ret
        exact ⟨by rw [HE.out]; simp, (HR.out _ H3.out).1.trans ⟨rfl, rfl, rfl, Nat.le_refl _, fun _ _ => rfl⟩⟩
      · go_wp2
        go_quiet (fail)
        go_wp2
        go_round
        case rel => exact ⟨m, by go_num, by omega, fun j hj => by
          rcases Nat.lt_or_ge m j with h | h
          · exact HK.out j h
          · rw [show j = m by omega, HX.out.1, HX.out.2], H3.out.trans ⟨rfl, rfl, rfl, Nat.le_refl _, fun _ _ => rfl⟩⟩
        case measure => simp [intOf]; try omega
      · have HE : Hid (decide (val A < val B) = false) := by
          have h : val B < val A := Nt.val_lt_of m B A HA.out.2 HA.out.1 (fun j hj => (HK.out j hj).symm) (by rw [HX.out.1, HX.out.2]; exact hlt)
          show _ = _; rw [decide_eq_false_iff_not]; omega
        have hn : ¬ x < y := by omega
        go_wp2
        go_quiet (fail)
        go_wp2
        go_quiet (fail)
        go_wp2
        go_ret
        exact ⟨by rw [HE.out]; simp [hn], (HR.out _ H3.out).1.trans ⟨rfl, rfl, rfl, Nat.le_refl _, fun _ _ => rfl⟩⟩
end Go.Proofs.YtedoghjefdkmaaaGreat
