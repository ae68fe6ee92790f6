/-
  Alg: readField.
-/
import Derived.Test.YtillkhjihggcjaaGreatDoorK40
namespace Go.Proofs.YtillkhjihggcjaaGreatDoor
open Go.RowKit
set_option maxRecDepth 20000
theorem upd_blw {w w' : World} {b : Nat} (h : Below w.heap.size w w') : Upd w w' b := ⟨h.os, h.tape, h.output, h.size, fun k hk _ => h.block k hk⟩
def FldAns (an : Addr) (g : Nat) (w : World) (e : Ending) : Option Al → Prop
  | none => (∃ s, e = .returned (flV an s)) ∧ ∃ a', Blk 32 w g (alC a')
  | some a' => e = .returned .nilIface ∧ Blk 32 w g (alC a')
theorem oneS_good {D : List Int} (uD : U8s D) (lD : D.length ≤ 6000) : (oneS (splitS D)).1.d.length ≤ 6000 ∧ U8s (oneS (splitS D)).1.d := by
  cases hS : splitS D with
  | inl pq => exact ⟨by simp [oneS, noEl], by simp [oneS, noEl, U8s]⟩
  | inr L =>
    rcases L with _ | ⟨y, _ | ⟨z, L⟩⟩
    · exact ⟨by simp [oneS, noEl], by simp [oneS, noEl, U8s]⟩
    · have := splitS_good uD hS y (by simp)
      exact ⟨by show y.d.length ≤ 6000; omega, this.2.1⟩
    · exact ⟨by simp [oneS, noEl], by simp [oneS, noEl, U8s]⟩
set_option maxHeartbeats 4000000 in
theorem readField_any {w : World} {an ak : Addr} (hG : Glb w an ak) (hT : P10 w) (g : Nat) (A : Al) (hA : Blk 32 w g (alC A)) (x : El) (a1 : Option Addr) (n1 c1 : Nat) (a2 : Option Addr) (n2 c2 : Nat) (hD : Sl .u8 w (.slice a1 n1 c1) x.d) (uD : U8s x.d) (lD : x.d.length ≤ 6000) :
    Calls Tryz.prog 74 #[.pointer (some ⟨g, 0, none⟩), .agg #[.int .i64 x.cl, .int .i64 x.tg, .bool x.co, .slice a1 n1 c1, .slice a2 n2 c2]] w fun e w' => FldAns an g w' e (fldS A x) ∧ Upd w w' g := by
  have HI : Hid (∀ W, Below w.heap.size w W → Calls Tryz.prog 77 #[.slice a1 n1 c1] W fun e w' => OneOut W.heap.size w' e (oneS (splitS x.d)) ∧ Below W.heap.size W w') := fun W h => OneS_any _ x.d (below_sl h hD) uD (by omega)
  have HN : Hid (∀ W s, Below w.heap.size w W → Calls Tryz.prog 49 #[.string s] W fun e w' => e = .returned (flV an s) ∧ W = w') := fun W s h => none_any (hG.below h) s
  have HG : Hid (Glb w an ak ∧ P10 w) := ⟨hG, hT⟩
  have hy := oneS_good uD lD
  obtain ⟨O, hO⟩ : ∃ O, fldS A x = O := ⟨_, rfl⟩
  rw [hO]
  obtain ⟨⟨y, er⟩, hye⟩ : ∃ ye, oneS (splitS x.d) = ye := ⟨_, rfl⟩
  have HQ : Hid (O = if er = 0 then fldY A x.tg y else none) := by show _ = _; rw [← hO]; unfold fldS; rw [hye]
  rw [hye] at HI hy
  simp only [] at hy
  have HA : Hid (Blk 32 w g (alC A)) := hA
  have hsn := sneq
  obtain ⟨cl, tg, co, D, R⟩ := x
  simp only [] at hD HI HQ ⊢
  clear hD uD lD hO hG hT hye hA
  go_enter Tryz.func74, Tryz.ntmps74
  go_wp2_with fail
  refine (HI.out _ (al1 _)).mono ?_
  rintro e w1 ⟨⟨b1, m1, d1, b2, m2, d2, rfl, hd, hr⟩, hb⟩
  have H1 : Hid (Below w.heap.size w w1 ∧ Blk 24 w1 w.heap.size [.int .i64 cl, .int .i64 tg, .bool co, .slice a1 n1 c1, .slice a2 n2 c2] ∧ Sl .u8 w1 (.slice b1 m1 d1) y.d) := ⟨below_via (al1 _) hb (Nat.le_refl _), below_blk hb (by simp) (Blk.new _ w _), hd.sl⟩
  have HY : Hid (∀ W, Below w1.heap.size w1 W → Glb W an ak ∧ P10 W ∧ Sl .u8 W (.slice b1 m1 d1) y.d ∧ U8s y.d ∧ y.d.length ≤ 6000) := fun W h => ⟨HG.out.1.below (below_via H1.out.1 h (Nat.le_refl _)), HG.out.2.below (below_via H1.out.1 h (Nat.le_refl _)), below_sl h H1.out.2.2, hy.2, hy.1⟩
  clear hb HI hd hr HG hy
  simp only []
  obtain ⟨ycl, ytg, yco, yD, yR⟩ := y
  simp only [] at HY ⊢
  go_upto_region 2 with (fail)
  refine wp_gen (fun W => Blk 24 W w1.heap.size [.int .i64 ycl, .int .i64 ytg, .bool yco, .slice b1 m1 d1, .slice b2 m2 d2] ∧ Below w1.heap.size w1 W) ⟨Blk.new _ w1 _, al1 _⟩ ?_
  rintro W2 ⟨hB, hBw⟩
  have H2 : Hid (Below w1.heap.size w1 W2 ∧ Below w.heap.size w W2 ∧ Blk 32 W2 g (alC A)) := ⟨hBw, below_via H1.out.1 hBw (Nat.le_refl _), below_blk (below_via H1.out.1 hBw (Nat.le_refl _)) HA.out.lt HA.out⟩
  have i0 : W2.cell? ⟨w1.heap.size, 0, none⟩ = some (.int .i64 ycl) := hB.cell 0
  have i1 : W2.cell? ⟨w1.heap.size, 1, none⟩ = some (.int .i64 ytg) := hB.cell 1
  have i2 : W2.cell? ⟨w1.heap.size, 2, none⟩ = some (.bool yco) := hB.cell 2
  have i3 : W2.cell? ⟨w1.heap.size, 3, none⟩ = some (.slice b1 m1 d1) := hB.cell 3
  have i4 : W2.cell? ⟨w1.heap.size, 4, none⟩ = some (.slice b2 m2 d2) := hB.cell 4
  have t1 : W2.cell? ⟨w.heap.size, 1, none⟩ = some (.int .i64 tg) := (below_blk hBw H1.out.2.1.lt H1.out.2.1).cell 1
  clear hB hBw
  by_cases h0 : er = 0
  · subst h0
    replace HQ : Hid (O = fldY A tg ⟨ycl, ytg, yco, yD, yR⟩) := HQ.out
    have fin : Hid (∀ (W : World) (i : Nat) (n : Int) (A' : Al) (e : Ending), Below W2.heap.size W2 W → (alC A).set i (.int .i64 n) = alC A' → FldAns an g (W.setCell ⟨g, i, none⟩ (.int .i64 n)) e O = FldAns an g (W.setCell ⟨g, i, none⟩ (.int .i64 n)) e O ∧ Blk 32 (W.setCell ⟨g, i, none⟩ (.int .i64 n)) g (alC A') ∧ Upd w (W.setCell ⟨g, i, none⟩ (.int .i64 n)) g) := fun W i n A' e h hs => by
      have hk := below_blk h H2.out.2.2.lt H2.out.2.2
      refine ⟨rfl, ?_, (upd_blw (below_via H2.out.2.1 h (Nat.le_refl _))).trans (Upd.set W g i _)⟩
      rw [← hs]
      exact hk.set i _
    obtain ⟨ak', ad', am', as'⟩ := A
    by_cases t0h : tg = 0
    · subst t0h
      obtain ⟨dg, hdg⟩ : ∃ dg, digS ⟨ycl, ytg, yco, yD, yR⟩ = dg := ⟨_, rfl⟩
      replace HQ : Hid (O = putD ⟨ak', ad', am', as'⟩ dg) := by show _ = _; rw [HQ.out, ← hdg]; rfl
      have HC : Hid (Calls Tryz.prog 21 #[.agg #[.int .i64 ycl, .int .i64 ytg, .bool yco, .slice b1 m1 d1, .slice b2 m2 d2]] W2 fun e w' => DigAns an e dg ∧ Below W2.heap.size W2 w') := by
        have := HY.out W2 H2.out.1
        rw [← hdg]
        exact readDigest_any this.1 this.2.1 ⟨ycl, ytg, yco, yD, yR⟩ b1 m1 d1 b2 m2 d2 this.2.2.1 this.2.2.2.1 this.2.2.2.2
      clear HY hdg
      go_wp2_with fail
      refine HC.out.mono ?_
      rintro e w3 ⟨hd, hb3⟩
      have hk := below_blk hb3 H2.out.2.2.lt H2.out.2.2
      have k1 : w3.cell? ⟨g, 1, none⟩ = some (.int .i64 ad') := hk.cell 1
      have kf := hk.frozen 1
      have H3 : Hid (Below W2.heap.size W2 w3) := hb3
      clear hk hb3 i0 i1 i2 i3 i4 t1
      rcases hd with ⟨h1, s, rfl⟩ | ⟨h1, rfl⟩
      · have HO : Hid (O = none) := by show _ = _; rw [HQ.out, h1]; rfl
        have hf := fin.out w3 1 0 ⟨ak', 0, am', as'⟩ .outgrown H3.out rfl
        have HF : Hid (Blk 32 (w3.setCell ⟨g, 1, none⟩ (.int .i64 0)) g (alC ⟨ak', 0, am', as'⟩) ∧ Upd w (w3.setCell ⟨g, 1, none⟩ (.int .i64 0)) g) := hf.2
        clear HQ hf h1
        simp only [flV, erV]
        go_wp2
        go_ret
        rw [HO.out]
        exact ⟨⟨⟨_, rfl⟩, _, HF.out.1⟩, HF.out.2⟩
      · have HO : Hid (O = some ⟨ak', dg, am', as'⟩) := by show _ = _; rw [HQ.out]; unfold putD; rw [if_neg h1]
        have hf := fin.out w3 1 dg ⟨ak', dg, am', as'⟩ .outgrown H3.out rfl
        have HF : Hid (Blk 32 (w3.setCell ⟨g, 1, none⟩ (.int .i64 dg)) g (alC ⟨ak', dg, am', as'⟩) ∧ Upd w (w3.setCell ⟨g, 1, none⟩ (.int .i64 dg)) g) := hf.2
        clear HQ hf h1
        go_wp2
        go_ret
        rw [HO.out]
        exact ⟨⟨rfl, HF.out.1⟩, HF.out.2⟩
    by_cases t1h : tg = 1
    · subst t1h
      obtain ⟨dg, hdg⟩ : ∃ dg, mskS ⟨ycl, ytg, yco, yD, yR⟩ = dg := ⟨_, rfl⟩
      replace HQ : Hid (O = putM ⟨ak', ad', am', as'⟩ dg) := by show _ = _; rw [HQ.out, ← hdg]; rfl
      have HC : Hid (Calls Tryz.prog 94 #[.agg #[.int .i64 ycl, .int .i64 ytg, .bool yco, .slice b1 m1 d1, .slice b2 m2 d2]] W2 fun e w' => DigAns an e dg ∧ Below W2.heap.size W2 w') := by
        have := HY.out W2 H2.out.1
        rw [← hdg]
        exact readMask_any this.1 this.2.1 ⟨ycl, ytg, yco, yD, yR⟩ b1 m1 d1 b2 m2 d2 this.2.2.1 this.2.2.2.1 this.2.2.2.2
      clear HY hdg
      go_wp2_with fail
      refine HC.out.mono ?_
      rintro e w3 ⟨hd, hb3⟩
      have hk := below_blk hb3 H2.out.2.2.lt H2.out.2.2
      have k1 : w3.cell? ⟨g, 2, none⟩ = some (.int .i64 am') := hk.cell 2
      have kf := hk.frozen 2
      have H3 : Hid (Below W2.heap.size W2 w3) := hb3
      clear hk hb3 i0 i1 i2 i3 i4 t1
      rcases hd with ⟨h1, s, rfl⟩ | ⟨h1, rfl⟩
      · have HO : Hid (O = none) := by show _ = _; rw [HQ.out, h1]; rfl
        have hf := fin.out w3 2 0 ⟨ak', ad', 0, as'⟩ .outgrown H3.out rfl
        have HF : Hid (Blk 32 (w3.setCell ⟨g, 2, none⟩ (.int .i64 0)) g (alC ⟨ak', ad', 0, as'⟩) ∧ Upd w (w3.setCell ⟨g, 2, none⟩ (.int .i64 0)) g) := hf.2
        clear HQ hf h1
        simp only [flV, erV]
        go_wp2
        go_ret
        rw [HO.out]
        exact ⟨⟨⟨_, rfl⟩, _, HF.out.1⟩, HF.out.2⟩
      · have HO : Hid (O = some ⟨ak', ad', dg, as'⟩) := by show _ = _; rw [HQ.out]; unfold putM; rw [if_neg h1]
        have hf := fin.out w3 2 dg ⟨ak', ad', dg, as'⟩ .outgrown H3.out rfl
        have HF : Hid (Blk 32 (w3.setCell ⟨g, 2, none⟩ (.int .i64 dg)) g (alC ⟨ak', ad', dg, as'⟩) ∧ Upd w (w3.setCell ⟨g, 2, none⟩ (.int .i64 dg)) g) := hf.2
        clear HQ hf h1
        go_wp2
        go_ret
        rw [HO.out]
        exact ⟨⟨rfl, HF.out.1⟩, HF.out.2⟩
    by_cases t2h : tg = 2
    · subst t2h
      obtain ⟨io, hio⟩ : ∃ io, intO ⟨ycl, ytg, yco, yD, yR⟩ 0 1000 = io := ⟨_, rfl⟩
      replace HQ : Hid (O = putS ⟨ak', ad', am', as'⟩ io) := by show _ = _; rw [HQ.out, ← hio]; rfl
      have HC : Hid (Calls Tryz.prog 95 #[.agg #[.int .i64 ycl, .int .i64 ytg, .bool yco, .slice b1 m1 d1, .slice b2 m2 d2], .int .i64 0, .int .i64 1000] W2 fun e w' => IntAns an e io ∧ Below W2.heap.size W2 w') := by
        have := HY.out W2 H2.out.1
        rw [← hio]
        exact readInt_any this.1 ⟨ycl, ytg, yco, yD, yR⟩ b1 m1 d1 b2 m2 d2 0 1000 this.2.2.1 this.2.2.2.1 this.2.2.2.2
      clear HY hio
      go_wp2_with fail
      refine HC.out.mono ?_
      rintro e w3 ⟨hd, hb3⟩
      have hk := below_blk hb3 H2.out.2.2.lt H2.out.2.2
      have k1 : w3.cell? ⟨g, 3, none⟩ = some (.int .i64 as') := hk.cell 3
      have kf := hk.frozen 3
      have H3 : Hid (Below W2.heap.size W2 w3) := hb3
      clear hk hb3 i0 i1 i2 i3 i4 t1
      cases io with
      | none =>
        obtain ⟨s, rfl⟩ := hd
        have HO : Hid (O = none) := HQ.out
        have hf := fin.out w3 3 0 ⟨ak', ad', am', 0⟩ .outgrown H3.out rfl
        have HF : Hid (Blk 32 (w3.setCell ⟨g, 3, none⟩ (.int .i64 0)) g (alC ⟨ak', ad', am', 0⟩) ∧ Upd w (w3.setCell ⟨g, 3, none⟩ (.int .i64 0)) g) := hf.2
        clear HQ hf
        simp only [flV, erV]
        go_wp2
        go_ret
        rw [HO.out]
        exact ⟨⟨⟨_, rfl⟩, _, HF.out.1⟩, HF.out.2⟩
      | some n =>
        obtain rfl : e = _ := hd
        have HO : Hid (O = some ⟨ak', ad', am', n⟩) := HQ.out
        have hf := fin.out w3 3 n ⟨ak', ad', am', n⟩ .outgrown H3.out rfl
        have HF : Hid (Blk 32 (w3.setCell ⟨g, 3, none⟩ (.int .i64 n)) g (alC ⟨ak', ad', am', n⟩) ∧ Upd w (w3.setCell ⟨g, 3, none⟩ (.int .i64 n)) g) := hf.2
        clear HQ hf
        go_wp2
        go_ret
        rw [HO.out]
        exact ⟨⟨rfl, HF.out.1⟩, HF.out.2⟩
    by_cases t3h : tg = 3
    · subst t3h
      obtain ⟨io, hio⟩ : ∃ io, intO ⟨ycl, ytg, yco, yD, yR⟩ 1 1 = io := ⟨_, rfl⟩
      replace HQ : Hid (O = putN ⟨ak', ad', am', as'⟩ io) := by show _ = _; rw [HQ.out, ← hio]; rfl
      have HC : Hid (Calls Tryz.prog 95 #[.agg #[.int .i64 ycl, .int .i64 ytg, .bool yco, .slice b1 m1 d1, .slice b2 m2 d2], .int .i64 1, .int .i64 1] W2 fun e w' => IntAns an e io ∧ Below W2.heap.size W2 w') := by
        have := HY.out W2 H2.out.1
        rw [← hio]
        exact readInt_any this.1 ⟨ycl, ytg, yco, yD, yR⟩ b1 m1 d1 b2 m2 d2 1 1 this.2.2.1 this.2.2.2.1 this.2.2.2.2
      clear HY hio
      go_wp2_with fail
      refine HC.out.mono ?_
      rintro e w3 ⟨hd, hb3⟩
      have H3 : Hid (Below w.heap.size w w3 ∧ Blk 32 w3 g (alC ⟨ak', ad', am', as'⟩)) := ⟨below_via H2.out.2.1 hb3 (Nat.le_refl _), below_blk hb3 H2.out.2.2.lt H2.out.2.2⟩
      clear hb3 i0 i1 i2 i3 i4 t1
      cases io with
      | none =>
        obtain ⟨s, rfl⟩ := hd
        have HO : Hid (O = none) := HQ.out
        clear HQ
        simp only [flV, erV]
        go_wp2
        go_ret
        rw [HO.out]
        exact ⟨⟨⟨_, rfl⟩, _, H3.out.2⟩, upd_blw H3.out.1⟩
      | some n =>
        obtain rfl : e = _ := hd
        have HO : Hid (O = some ⟨ak', ad', am', as'⟩) := HQ.out
        clear HQ
        go_wp2
        go_ret
        rw [HO.out]
        exact ⟨⟨rfl, H3.out.2⟩, upd_blw H3.out.1⟩
    have HO : Hid (O = none) := by show _ = _; rw [HQ.out]; unfold fldY; rw [if_neg t0h, if_neg t1h, if_neg t2h, if_neg t3h]
    have u0 : (tg == 0) = false := by simpa using t0h
    have u1 : (tg == 1) = false := by simpa using t1h
    have u2 : (tg == 2) = false := by simpa using t2h
    have u3 : (tg == 3) = false := by simpa using t3h
    clear HQ i0 i1 i2 i3 i4 t0h t1h t2h t3h
    go_wp2_with (go_at_call 49; refine (HN.out _ _ H2.out.2.1).mono ?_; rintro e w9 ⟨rfl, rfl⟩)
    go_ret
    rw [HO.out]
    exact ⟨⟨⟨_, rfl⟩, _, H2.out.2.2⟩, upd_blw H2.out.2.1⟩
  · have HO : Hid (O = none) := by show _ = _; rw [HQ.out, if_neg h0]
    have h00 : (er != 0) = true := by simpa using h0
    clear HQ h0 i0 i1 i2 i3 i4 t1
    go_wp2_with (go_at_call 49; refine (HN.out _ _ H2.out.2.1).mono ?_; rintro e w9 ⟨rfl, rfl⟩)
    go_ret
    rw [HO.out]
    exact ⟨⟨⟨_, rfl⟩, A, H2.out.2.2⟩, upd_blw H2.out.2.1⟩
end Go.Proofs.YtillkhjihggcjaaGreatDoor
/-
  Alg: readPss.
-/
namespace Go.Proofs.YtillkhjihggcjaaGreatDoor
open Go.RowKit
set_option maxRecDepth 20000
theorem spl_tag {M : List Int} (hM : U8s M) : ∀ f p L, M.length - p = f → (∀ y ∈ L, y.tg ≤ 268435455) → ∀ L', spl M p L = .inr L' → ∀ y ∈ L', y.tg ≤ 268435455 := by
  intro f
  induction f using Nat.strongRecOn with
  | _ f ih =>
    intro p L hf hy L' h
    by_cases hp : p < M.length
    · by_cases hL2 : L.length < 65536
      · cases hE : elemS M p with
        | inl pq => obtain ⟨e', a'⟩ := pq; rw [spl_bad hp hL2 hE] at h; cases h
        | inr pq =>
          obtain ⟨t, j, E⟩ := pq
          have := elemS_ok hM hp hE
          rw [spl_ok hM hp hL2 hE] at h
          refine ih (M.length - E) (by omega) E _ rfl ?_ L' h
          intro y hy'
          rcases List.mem_append.1 hy' with hy' | hy'
          · exact hy y hy'
          · rw [List.mem_singleton] at hy'
            subst hy'
            exact this.2.2.2.2
      · rw [spl_many hp (by omega)] at h; cases h
    · rw [spl_end (by omega)] at h; cases h; exact hy
theorem rowS_tag {x : El} (uD : U8s x.d) {L : List El} (h : rowS x = some L) : L.length ≤ 65536 ∧ ∀ y ∈ L, y.tg ≤ 268435455 := by
  unfold rowS at h
  split at h
  · have h1 := (splitS_small uD).1
    cases hS : splitS x.d with
    | inl pq => rw [hS] at h; cases h
    | inr L' =>
      rw [hS] at h h1
      obtain rfl : L' = L := Option.some.inj h
      refine ⟨h1, ?_⟩
      unfold splitS at hS
      split at hS
      · cases hS
      · exact spl_tag uD _ 0 [] rfl (by simp) L' hS
  · cases h
theorem TlvS.get {w : World} {v : Value} {L : List El} (h : TlvS w v L) {i : Nat} {x : El} (hx : L[i]? = some x) :
    ∃ b off c a1 n1 c1 a2 n2 c2, v = .slice (some ⟨b, off, none⟩) L.length c ∧ L.length ≤ c ∧ b < w.heap.size ∧ w.cell? ⟨b, off + i * 5, none⟩ = some (.int .i64 x.cl) ∧ w.cell? ⟨b, off + i * 5 + 1, none⟩ = some (.int .i64 x.tg) ∧ w.cell? ⟨b, off + i * 5 + 2, none⟩ = some (.bool x.co) ∧ w.cell? ⟨b, off + i * 5 + 3, none⟩ = some (.slice a1 n1 c1) ∧ w.cell? ⟨b, off + i * 5 + 4, none⟩ = some (.slice a2 n2 c2)
      ∧ Sl .u8 w (.slice a1 n1 c1) x.d ∧ Sl .u8 w (.slice a2 n2 c2) x.r := by
  obtain ⟨a, c, Y, rfl, hc, hY, hr, hs⟩ := h
  have hi : i < L.length := (List.getElem?_eq_some_iff.1 hx).1
  rcases hr with h | ⟨b, off, rfl, hb, hr⟩
  · subst h; simp at hi
  obtain ⟨⟨x', d, r⟩, hy⟩ : ∃ y, Y[i]? = some y := ⟨_, List.getElem?_eq_getElem (by rw [← hY, List.length_map] at hi; exact hi)⟩
  have hxx : x' = x := by
    have : (Y.map (·.1))[i]? = some x' := by rw [List.getElem?_map, hy]; rfl
    rw [hY, hx] at this
    exact (Option.some.inj this).symm
  subst hxx
  have hd : Sl .u8 w d x'.d ∧ Sl .u8 w r x'.r := hs _ (List.mem_of_getElem? hy)
  obtain ⟨a1, c1, rfl, _⟩ := id hd.1
  obtain ⟨a2, c2, rfl, _⟩ := id hd.2
  exact ⟨b, off, c, a1, _, c1, a2, _, c2, rfl, hc, hb, cells_at hr hi _ hy 0 (by decide) _ rfl, cells_at hr hi _ hy 1 (by decide) _ rfl, cells_at hr hi _ hy 2 (by decide) _ rfl, cells_at hr hi _ hy 3 (by decide) _ rfl, cells_at hr hi _ hy 4 (by decide) _ rfl, hd.1, hd.2⟩
def nxF (L : List El) (t : Int) : Option Al → Option Al
  | none => none
  | some a' => pssF L a' t
theorem pssF_cons (x : El) (L : List El) (a : Al) (least : Int) : pssF (x :: L) a least = if x.cl = 2 ∧ x.co = true ∧ least ≤ x.tg then nxF L (x.tg + 1) (fldS a x) else none := by
  rw [pssF]
  cases fldS a x <;> rfl
def PssAns (an : Addr) (e : Ending) : Option Al → Prop
  | none => ∃ s, e = .returned (.tuple #[.agg #[.int .i64 0, .int .i64 0, .int .i64 0, .int .i64 0], flV an s])
  | some a => e = .returned (.tuple #[.agg #[.int .i64 a.k, .int .i64 a.d, .int .i64 a.m, .int .i64 a.s], .nilIface])
def pssT (A : Al) : Option (List El) → Option Al
  | none => none
  | some L => pssF L A 0
def pssR (A : Al) : List El → Option Al
  | [r] => pssT A (rowS r)
  | _ => none
theorem alC_nn {A : Al} : ∀ x ∈ alC A, ∀ m, x ≠ .int .u8 m := by
  intro x hx m h
  simp only [alC, List.mem_cons, List.not_mem_nil, or_false] at hx
  rcases hx with rfl | rfl | rfl | rfl <;> cases h
set_option maxHeartbeats 8000000 in
theorem readPss_any {w : World} {an ak : Addr} (hG : Glb w an ak) (hT : P10 w) (A : Al) (a : Option Addr) (n c : Nat) (rest : List El) (hn : rest.length = n) (h1 : n ≤ 1) (hr : TlvS w (.slice a n c) rest) (hg : ∀ y ∈ rest, y.d.length ≤ 6000 ∧ U8s y.d ∧ 0 ≤ y.tg) :
    Calls Tryz.prog 52 #[.agg #[.int .i64 A.k, .int .i64 A.d, .int .i64 A.m, .int .i64 A.s], .slice a n c] w fun e w' => PssAns an e (pssR A rest) ∧ Below w.heap.size w w' := by
  have HN : Hid (∀ W s, Below w.heap.size w W → Calls Tryz.prog 49 #[.string s] W fun e w' => e = .returned (flV an s) ∧ W = w') := fun W s h => none_any (hG.below h) s
  have HG : Hid (Glb w an ak ∧ P10 w) := ⟨hG, hT⟩
  have hsn := sneq
  have two : Hid (∀ o o', Blk 32 ((w.alloc o).alloc (.cells #[.int .i64 0, .int .i64 0, .int .i64 0, .int .i64 0] 32)) (w.heap.size + 1) [.int .i64 0, .int .i64 0, .int .i64 0, .int .i64 0] ∧ Below w.heap.size w ((w.alloc o).alloc o')) := fun o o' => ⟨by
    have := Blk.new 32 (w.alloc o) [.int .i64 0, .int .i64 0, .int .i64 0, .int .i64 0]
    rw [World.size_alloc] at this
    exact this, below_via (al1 _) (al1 _) (Nat.le_refl _)⟩
  have zer : Hid (∀ (W : World), Below w.heap.size w W → Blk 32 W (w.heap.size + 1) [.int .i64 0, .int .i64 0, .int .i64 0, .int .i64 0] → ∀ a b c d : Int, Blk 32 ((((W.setCell ⟨w.heap.size + 1, 0, none⟩ (.int .i64 a)).setCell ⟨w.heap.size + 1, 1, none⟩ (.int .i64 b)).setCell ⟨w.heap.size + 1, 2, none⟩ (.int .i64 c)).setCell ⟨w.heap.size + 1, 3, none⟩ (.int .i64 d)) (w.heap.size + 1) [.int .i64 a, .int .i64 b, .int .i64 c, .int .i64 d] ∧ Below w.heap.size w ((((W.setCell ⟨w.heap.size + 1, 0, none⟩ (.int .i64 a)).setCell ⟨w.heap.size + 1, 1, none⟩ (.int .i64 b)).setCell ⟨w.heap.size + 1, 2, none⟩ (.int .i64 c)).setCell ⟨w.heap.size + 1, 3, none⟩ (.int .i64 d))) := fun W hW hB a b c d =>
    ⟨(((hB.set 0 (.int .i64 a)).set 1 (.int .i64 b)).set 2 (.int .i64 c)).set 3 (.int .i64 d), ((((Upd.set W (w.heap.size + 1) 0 (.int .i64 a)).trans (Upd.set _ _ 1 (.int .i64 b))).trans (Upd.set _ _ 2 (.int .i64 c))).trans (Upd.set _ _ 3 (.int .i64 d))).below hW hW.size (by omega)⟩
  have HX : Hid (rest.length = n ∧ n ≤ 1 ∧ TlvS w (.slice a n c) rest ∧ ∀ y ∈ rest, y.d.length ≤ 6000 ∧ U8s y.d ∧ 0 ≤ y.tg) := ⟨hn, h1, hr, hg⟩
  obtain ⟨O, hO⟩ : ∃ O, pssR A rest = O := ⟨_, rfl⟩
  rw [hO]
  have HO : Hid (pssR A rest = O) := hO
  clear hG hT hn h1 hr hg hO
  by_cases hn1 : n = 1
  · subst hn1
    obtain ⟨r, hrest⟩ : ∃ r, rest = [r] := by
      have := HX.out.1
      rcases rest with _ | ⟨r, _ | ⟨z, rest⟩⟩
      · simp at this
      · exact ⟨r, rfl⟩
      · simp at this
    subst hrest
    replace HO : Hid (pssT A (rowS r) = O) := HO.out
    have hy := HX.out.2.2.2 r (by simp)
    obtain ⟨b, off, c', b1, m1, d1, b2, m2, d2, hvv, hc, hbl, e0, e1, e2, e3, e4, sd, sr, ht⟩ := HX.out.2.2.1.cons
    simp only [Value.slice.injEq] at hvv
    obtain ⟨rfl, hx1, rfl⟩ := hvv
    have HR : Hid (∀ W, Below w.heap.size w W → (W.cell? ⟨b, off, none⟩ = some (.int .i64 r.cl) ∧ W.cell? ⟨b, off + 1, none⟩ = some (.int .i64 r.tg) ∧ W.cell? ⟨b, off + 2, none⟩ = some (.bool r.co) ∧ W.cell? ⟨b, off + 3, none⟩ = some (.slice b1 m1 d1) ∧ W.cell? ⟨b, off + 4, none⟩ = some (.slice b2 m2 d2)) ∧ Calls Tryz.prog 55 #[.agg #[.int .i64 r.cl, .int .i64 r.tg, .bool r.co, .slice b1 m1 d1, .slice b2 m2 d2]] W fun e w' => RowAns W.heap.size w' e (rowS r) ∧ Below W.heap.size W w') := fun W h => ⟨⟨(h.cell hbl).trans e0, (h.cell hbl).trans e1, (h.cell hbl).trans e2, (h.cell hbl).trans e3, (h.cell hbl).trans e4⟩, row_any r b1 m1 d1 _ (below_sl h sd) hy.2.1 hy.1⟩
    obtain ⟨RO, hRO⟩ : ∃ R, rowS r = R := ⟨_, rfl⟩
    have HL : Hid (∀ L, RO = some L → L.length ≤ 65536 ∧ ∀ y ∈ L, y.d.length ≤ 6000 ∧ U8s y.d ∧ 0 ≤ y.tg ∧ y.tg ≤ 268435455) := fun L h => by
      have g1 := rowS_good hy.2.1 hy.1 (hRO.trans h)
      have g2 := rowS_tag hy.2.1 (hRO.trans h)
      exact ⟨g2.1, fun y hy' => ⟨(g1 y hy').1, (g1 y hy').2.1, (g1 y hy').2.2, g2.2 y hy'⟩⟩
    rw [hRO] at HR HO
    obtain ⟨rcl, rtg, rco, rD, rR⟩ := r
    simp only [] at HR
    clear HX hy hx1 hc hbl e0 e1 e2 e3 e4 sd sr ht hRO
    go_enter Tryz.func52, Tryz.ntmps52
    go_upto_region 1 with (fail)
    refine wp_gen (fun W => Blk 32 W w.heap.size (alC A) ∧ Blk 32 W (w.heap.size + 1) [.int .i64 0, .int .i64 0, .int .i64 0, .int .i64 0] ∧ Below w.heap.size w W ∧ W.heap.size = w.heap.size + 2) ⟨(Blk.new _ w _).alloc _, (two.out _ (.cells #[] 0)).1, (two.out _ _).2, by simp⟩ ?_
    rintro W1 ⟨hA, hZ, hW1, hs1⟩
    have H1 : Hid (Blk 32 W1 w.heap.size (alC A) ∧ Blk 32 W1 (w.heap.size + 1) [.int .i64 0, .int .i64 0, .int .i64 0, .int .i64 0] ∧ Below w.heap.size w W1 ∧ W1.heap.size = w.heap.size + 2) := ⟨hA, hZ, hW1, hs1⟩
    obtain ⟨⟨e0, e1, e2, e3, e4⟩, hrow⟩ := HR.out _ hW1
    have HC : Hid (Calls Tryz.prog 55 #[.agg #[.int .i64 rcl, .int .i64 rtg, .bool rco, .slice b1 m1 d1, .slice b2 m2 d2]] W1 fun e w' => RowAns W1.heap.size w' e RO ∧ Below W1.heap.size W1 w') := hrow
    clear hA hZ hW1 hs1 hrow HR
    go_wp2_with fail
    refine HC.out.mono ?_
    rintro e w2 ⟨ha, hb2⟩
    have H2 : Hid (Blk 32 w2 w.heap.size (alC A) ∧ Blk 32 w2 (w.heap.size + 1) [.int .i64 0, .int .i64 0, .int .i64 0, .int .i64 0] ∧ Below w.heap.size w w2 ∧ w.heap.size + 2 ≤ W1.heap.size) := ⟨below_blk hb2 H1.out.1.lt H1.out.1, below_blk hb2 H1.out.2.1.lt H1.out.2.1, below_via H1.out.2.2.1 hb2 (Nat.le_refl _), by have := H1.out.2.2.2; omega⟩
    clear hb2 e0 e1 e2 e3 e4 HC
    cases RO with
    | none =>
      obtain ⟨a', n', c', rfl⟩ := ha
      have HOn : Hid (O = none) := HO.out.symm
      have z0 : w2.cell? ⟨w.heap.size + 1, 0, none⟩ = some (.int .i64 0) := H2.out.2.1.cell 0
      have z1 : w2.cell? ⟨w.heap.size + 1, 1, none⟩ = some (.int .i64 0) := H2.out.2.1.cell 1
      have z2 : w2.cell? ⟨w.heap.size + 1, 2, none⟩ = some (.int .i64 0) := H2.out.2.1.cell 2
      have z3 : w2.cell? ⟨w.heap.size + 1, 3, none⟩ = some (.int .i64 0) := H2.out.2.1.cell 3
      have f0 := H2.out.2.1.frozen 0
      have f1 := H2.out.2.1.frozen 1
      have f2 := H2.out.2.1.frozen 2
      have f3 := H2.out.2.1.frozen 3
      go_wp2_with (go_at_call 49; refine (HN.out _ _ H2.out.2.2.1).mono ?_; rintro e w9 ⟨rfl, rfl⟩)
      have hz := zer.out _ H2.out.2.2.1 H2.out.2.1 0 0 0 0
      refine bodyPost_ret (results_blk2 rfl rfl hz.1 Tryz.underlying32 rfl Tryz.sizeAl rfl) rfl ⟨?_, hz.2⟩
      rw [HOn.out]
      exact ⟨_, rfl⟩
    | some L =>
      obtain ⟨v, rfl, hv⟩ := ha
      obtain ⟨av, cv, rfl⟩ := hv.len
      have HLL := HL.out L rfl
      replace HO : Hid (pssF L A 0 = O) := HO.out
      obtain ⟨k, hk⟩ : ∃ k, L.length = k := ⟨_, rfl⟩
      rw [hk] at hv ⊢
      have HV : Hid (TlvS w2 (.slice av k cv) L ∧ (∀ b off n c, Value.slice av k cv = .slice (some ⟨b, off, none⟩) n c → W1.heap.size ≤ b) ∧ L.length = k ∧ ∀ y ∈ L, y.d.length ≤ 6000 ∧ U8s y.d ∧ 0 ≤ y.tg ∧ y.tg ≤ 268435455) := ⟨hv.r.s, fun b off n c h => by rw [h] at hv; exact hv.blk, hk, HLL.2⟩
      have hk6 : k ≤ 65536 := by have := HLL.1; omega
      clear hv HLL hk HL
      go_wp2_with fail
      go_loopw [8, 30] (fun lv iv wr => ∃ (i : Nat) (A' : Al) (least : Int), lv = .int .i64 least ∧ iv = .int .i64 i ∧ i ≤ k ∧ Below w.heap.size w wr ∧ Blk 32 wr w.heap.size (alC A') ∧ Blk 32 wr (w.heap.size + 1) [.int .i64 0, .int .i64 0, .int .i64 0, .int .i64 0] ∧ TlvS wr (.slice av k cv) L ∧ pssF (L.drop i) A' least = O) (fun _ iv _ => k - (intOf iv).toNat)
      case atStart => exact ⟨0, A, 0, rfl, rfl, Nat.zero_le _, H2.out.2.2.1, H2.out.1, H2.out.2.1, HV.out.1, by simpa using HO.out⟩
      case round =>
        obtain ⟨i, A', least, rfl, rfl, hi, hbw, hA, hZ, hTl, hF⟩ := hrel
        by_cases hlt : i < k
        · obtain ⟨x, hx⟩ : ∃ x, L[i]? = some x := ⟨_, List.getElem?_eq_getElem (by have := HV.out.2.2.1; omega)⟩
          have hdr : L.drop i = x :: L.drop (i + 1) := by
            obtain ⟨h, hx'⟩ := List.getElem?_eq_some_iff.1 hx
            rw [List.drop_eq_getElem_cons h, hx']
          rw [hdr, pssF_cons] at hF
          have hmem := HV.out.2.2.2 x (List.mem_of_getElem? hx)
          obtain ⟨b, off, c', x1, p1, q1, x2, p2, q2, hvv, hc, hbl, e0, e1, e2, e3, e4, sd, sr⟩ := hTl.get hx
          have hbB : W1.heap.size ≤ b := by rw [HV.out.2.2.1] at hvv; exact HV.out.2.1 _ _ _ _ hvv
          simp only [Value.slice.injEq] at hvv
          obtain ⟨rfl, hx1, rfl⟩ := hvv
          have l1 : (i : Int) < (k : Int) := by omega
          have HK : Hid (Below w.heap.size w wr ∧ Blk 32 wr w.heap.size (alC A') ∧ Blk 32 wr (w.heap.size + 1) [.int .i64 0, .int .i64 0, .int .i64 0, .int .i64 0] ∧ TlvS wr (.slice (some ⟨b, off, none⟩) k cv) L ∧ b < wr.heap.size ∧ W1.heap.size ≤ b ∧ Sl .u8 wr (.slice x1 p1 q1) x.d ∧ x.d.length ≤ 6000 ∧ U8s x.d ∧ 0 ≤ x.tg ∧ x.tg ≤ 268435455) := ⟨hbw, hA, hZ, hTl, hbl, hbB, sd, hmem.1, hmem.2.1, hmem.2.2.1, hmem.2.2.2⟩
          have HF : Hid ((if x.cl = 2 ∧ x.co = true ∧ least ≤ x.tg then nxF (L.drop (i + 1)) (x.tg + 1) (fldS A' x) else none) = O) := hF
          have tg0 := hmem.2.2.1
          have tg1 := hmem.2.2.2
          obtain ⟨FO, hFO⟩ : ∃ F, fldS A' x = F := ⟨_, rfl⟩
          rw [hFO] at HF
          have HP : Hid (∀ W, Below wr.heap.size wr W → Calls Tryz.prog 74 #[.pointer (some ⟨w.heap.size, 0, none⟩), .agg #[.int .i64 x.cl, .int .i64 x.tg, .bool x.co, .slice x1 p1 q1, .slice x2 p2 q2]] W fun e w' => FldAns an w.heap.size w' e FO ∧ Upd W w' w.heap.size) := fun W h => by
            rw [← hFO]
            have hw := below_via HK.out.1 h (Nat.le_refl _)
            exact readField_any (HG.out.1.below hw) (HG.out.2.below hw) w.heap.size A' (below_blk h HK.out.2.1.lt HK.out.2.1) x x1 p1 q1 x2 p2 q2 (below_sl h HK.out.2.2.2.2.2.2.1) HK.out.2.2.2.2.2.2.2.2.1 HK.out.2.2.2.2.2.2.2.1
          obtain ⟨xcl, xtg, xco, xD, xR⟩ := x
          simp only [] at e0 e1 e2 e3 e4 HF HP tg0 tg1
          clear hx hdr hF hmem hc hbl hbB hx1 sd sr hbw hA hZ hTl hFO
          go_upto_region 10 with (fail)
          refine wp_gen (fun W => Blk 24 W wr.heap.size [.int .i64 xcl, .int .i64 xtg, .bool xco, .slice x1 p1 q1, .slice x2 p2 q2] ∧ Below wr.heap.size wr W) ⟨Blk.new _ wr _, al1 _⟩ ?_
          rintro W3 ⟨hB, hBw⟩
          have H3 : Hid (Below wr.heap.size wr W3 ∧ Below w.heap.size w W3 ∧ Blk 32 W3 (w.heap.size + 1) [.int .i64 0, .int .i64 0, .int .i64 0, .int .i64 0] ∧ Blk 24 W3 wr.heap.size [.int .i64 xcl, .int .i64 xtg, .bool xco, .slice x1 p1 q1, .slice x2 p2 q2] ∧ w.heap.size < wr.heap.size) := ⟨hBw, below_via HK.out.1 hBw (Nat.le_refl _), below_blk hBw HK.out.2.2.1.lt HK.out.2.2.1, hB, HK.out.2.1.lt⟩
          have i0 : W3.cell? ⟨wr.heap.size, 0, none⟩ = some (.int .i64 xcl) := hB.cell 0
          have i1 : W3.cell? ⟨wr.heap.size, 1, none⟩ = some (.int .i64 xtg) := hB.cell 1
          have i2 : W3.cell? ⟨wr.heap.size, 2, none⟩ = some (.bool xco) := hB.cell 2
          have i3 : W3.cell? ⟨wr.heap.size, 3, none⟩ = some (.slice x1 p1 q1) := hB.cell 3
          have i4 : W3.cell? ⟨wr.heap.size, 4, none⟩ = some (.slice x2 p2 q2) := hB.cell 4
          have z0 : W3.cell? ⟨w.heap.size + 1, 0, none⟩ = some (.int .i64 0) := H3.out.2.2.1.cell 0
          have z1 : W3.cell? ⟨w.heap.size + 1, 1, none⟩ = some (.int .i64 0) := H3.out.2.2.1.cell 1
          have z2 : W3.cell? ⟨w.heap.size + 1, 2, none⟩ = some (.int .i64 0) := H3.out.2.2.1.cell 2
          have z3 : W3.cell? ⟨w.heap.size + 1, 3, none⟩ = some (.int .i64 0) := H3.out.2.2.1.cell 3
          have f0 := H3.out.2.2.1.frozen 0
          have f1 := H3.out.2.2.1.frozen 1
          have f2 := H3.out.2.2.1.frozen 2
          have f3 := H3.out.2.2.1.frozen 3
          clear hB hBw e0 e1 e2 e3 e4
          by_cases hcond : xcl = 2 ∧ xco = true ∧ least ≤ xtg
          · obtain ⟨rfl, rfl, hle⟩ := hcond
            replace HF : Hid (nxF (L.drop (i + 1)) (xtg + 1) FO = O) := by have := HF.out; rw [if_pos ⟨rfl, rfl, hle⟩] at this; exact this
            have hnl : ¬ xtg < least := by omega
            clear z0 z1 z2 z3 f0 f1 f2 f3
            go_wp2_with fail
            refine (HP.out _ H3.out.1).mono ?_
            rintro e w4 ⟨hd, hU⟩
            have hZ4 := hU.blk H3.out.2.2.1 (by omega)
            have hT4 := hU.blk H3.out.2.2.2.1 (by have := H3.out.2.2.2.2; omega)
            have hB4 : Below w.heap.size w w4 := hU.below H3.out.2.1 H3.out.2.1.size (Nat.le_refl _)
            have hTl4 : TlvS w4 (.slice (some ⟨b, off, none⟩) k cv) L := (HK.out.2.2.2.1.below H3.out.1).upd (below_blk H3.out.1 HK.out.2.1.lt HK.out.2.1) hU (fun b' o' n' c' h => by simp only [Value.slice.injEq, Option.some.injEq, Addr.mk.injEq] at h; have := HK.out.2.2.2.2.2.1; have := H2.out.2.2.2; omega) alC_nn
            have j1 : w4.cell? ⟨wr.heap.size, 1, none⟩ = some (.int .i64 xtg) := hT4.cell 1
            clear i0 i1 i2 i3 i4 HP hT4 hU
            cases FO with
            | none =>
              obtain ⟨⟨s, rfl⟩, _⟩ := hd
              have HOn : Hid (O = none) := HF.out.symm
              have H4 : Hid (Below w.heap.size w w4 ∧ Blk 32 w4 (w.heap.size + 1) [.int .i64 0, .int .i64 0, .int .i64 0, .int .i64 0]) := ⟨hB4, hZ4⟩
              have z0 : w4.cell? ⟨w.heap.size + 1, 0, none⟩ = some (.int .i64 0) := H4.out.2.cell 0
              have z1 : w4.cell? ⟨w.heap.size + 1, 1, none⟩ = some (.int .i64 0) := H4.out.2.cell 1
              have z2 : w4.cell? ⟨w.heap.size + 1, 2, none⟩ = some (.int .i64 0) := H4.out.2.cell 2
              have z3 : w4.cell? ⟨w.heap.size + 1, 3, none⟩ = some (.int .i64 0) := H4.out.2.cell 3
              have f0 := H4.out.2.frozen 0
              have f1 := H4.out.2.frozen 1
              have f2 := H4.out.2.frozen 2
              have f3 := H4.out.2.frozen 3
              clear hB4 hZ4 hTl4
              simp only [flV, erV]
              go_wp2
              have hz := zer.out _ H4.out.1 H4.out.2 0 0 0 0
              refine bodyPost_ret (results_blk2 rfl rfl hz.1 Tryz.underlying32 rfl Tryz.sizeAl rfl) rfl ⟨?_, hz.2⟩
              rw [HOn.out]
              exact ⟨_, rfl⟩
            | some A'' =>
              obtain ⟨rfl, hA4⟩ := hd
              have H4 : Hid (Below w.heap.size w w4 ∧ Blk 32 w4 w.heap.size (alC A'') ∧ Blk 32 w4 (w.heap.size + 1) [.int .i64 0, .int .i64 0, .int .i64 0, .int .i64 0] ∧ TlvS w4 (.slice (some ⟨b, off, none⟩) k cv) L) := ⟨hB4, hA4, hZ4, hTl4⟩
              clear hB4 hZ4 hTl4 hA4
              go_wp2
              go_roundw
              case rel => exact ⟨i + 1, A'', xtg + 1, by go_num, by go_num, by omega, H4.out.1, H4.out.2.1, H4.out.2.2.1, H4.out.2.2.2, HF.out⟩
              case measure => simp [intOf]; omega
          · have HOn : Hid (O = none) := by have := HF.out; rw [if_neg hcond] at this; exact this.symm
            clear HF HP
            by_cases c1 : xcl = 2
            · subst c1
              cases xco with
              | true =>
                have hl : xtg < least := by simp at hcond; omega
                clear hcond
                go_wp2_with (go_at_call 49; refine (HN.out _ _ H3.out.2.1).mono ?_; rintro e w9 ⟨rfl, rfl⟩)
                have hz := zer.out _ H3.out.2.1 H3.out.2.2.1 0 0 0 0
                refine bodyPost_ret (results_blk2 rfl rfl hz.1 Tryz.underlying32 rfl Tryz.sizeAl rfl) rfl ⟨?_, hz.2⟩
                rw [HOn.out]
                exact ⟨_, rfl⟩
              | false =>
                clear hcond
                go_wp2_with (go_at_call 49; refine (HN.out _ _ H3.out.2.1).mono ?_; rintro e w9 ⟨rfl, rfl⟩)
                have hz := zer.out _ H3.out.2.1 H3.out.2.2.1 0 0 0 0
                refine bodyPost_ret (results_blk2 rfl rfl hz.1 Tryz.underlying32 rfl Tryz.sizeAl rfl) rfl ⟨?_, hz.2⟩
                rw [HOn.out]
                exact ⟨_, rfl⟩
            · have c1' : (xcl != 2) = true := by simpa using c1
              clear hcond c1
              go_wp2_with (go_at_call 49; refine (HN.out _ _ H3.out.2.1).mono ?_; rintro e w9 ⟨rfl, rfl⟩)
              have hz := zer.out _ H3.out.2.1 H3.out.2.2.1 0 0 0 0
              refine bodyPost_ret (results_blk2 rfl rfl hz.1 Tryz.underlying32 rfl Tryz.sizeAl rfl) rfl ⟨?_, hz.2⟩
              rw [HOn.out]
              exact ⟨_, rfl⟩
        · obtain rfl : i = k := by omega
          have HOn : Hid (some A' = O) := by
            have h0 : L.drop i = [] := List.drop_eq_nil_of_le (by have := HV.out.2.2.1; omega)
            rw [h0] at hF
            exact hF
          have l1 : ¬ (i : Int) < (i : Int) := by omega
          have H4 : Hid (Below w.heap.size w wr ∧ Blk 32 wr (w.heap.size + 1) [.int .i64 0, .int .i64 0, .int .i64 0, .int .i64 0]) := ⟨hbw, hZ⟩
          obtain ⟨ak', ad', am', as'⟩ := A'
          have y0 : wr.cell? ⟨w.heap.size, 0, none⟩ = some (.int .i64 ak') := hA.cell 0
          have y1 : wr.cell? ⟨w.heap.size, 1, none⟩ = some (.int .i64 ad') := hA.cell 1
          have y2 : wr.cell? ⟨w.heap.size, 2, none⟩ = some (.int .i64 am') := hA.cell 2
          have y3 : wr.cell? ⟨w.heap.size, 3, none⟩ = some (.int .i64 as') := hA.cell 3
          have z0 : wr.cell? ⟨w.heap.size + 1, 0, none⟩ = some (.int .i64 0) := H4.out.2.cell 0
          have z1 : wr.cell? ⟨w.heap.size + 1, 1, none⟩ = some (.int .i64 0) := H4.out.2.cell 1
          have z2 : wr.cell? ⟨w.heap.size + 1, 2, none⟩ = some (.int .i64 0) := H4.out.2.cell 2
          have z3 : wr.cell? ⟨w.heap.size + 1, 3, none⟩ = some (.int .i64 0) := H4.out.2.cell 3
          have f0 := H4.out.2.frozen 0
          have f1 := H4.out.2.frozen 1
          have f2 := H4.out.2.frozen 2
          have f3 := H4.out.2.frozen 3
          clear hF hbw hA hZ hTl hi hlt
          go_wp2
          have hz := zer.out _ H4.out.1 H4.out.2 ak' ad' am' as'
          refine bodyPost_ret (results_blk2 rfl rfl hz.1 Tryz.underlying32 rfl Tryz.sizeAl rfl) rfl ⟨?_, hz.2⟩
          rw [← HOn.out]
          rfl
  · have HOn : Hid (O = none) := by
      show _ = _
      rw [← HO.out]
      have := HX.out.1
      rcases rest with _ | ⟨r, _ | ⟨z, rest⟩⟩
      · rfl
      · simp at this; omega
      · rfl
    obtain rfl : n = 0 := by have := HX.out.2.1; omega
    clear HX HO
    go_enter Tryz.func52, Tryz.ntmps52
    go_upto_region 1 with (fail)
    refine wp_gen (fun W => Blk 32 W (w.heap.size + 1) [.int .i64 0, .int .i64 0, .int .i64 0, .int .i64 0] ∧ Below w.heap.size w W) ⟨(two.out _ (.cells #[] 0)).1, (two.out _ _).2⟩ ?_
    rintro w2 ⟨hZ, hW⟩
    have z0 : w2.cell? ⟨w.heap.size + 1, 0, none⟩ = some (.int .i64 0) := hZ.cell 0
    have z1 : w2.cell? ⟨w.heap.size + 1, 1, none⟩ = some (.int .i64 0) := hZ.cell 1
    have z2 : w2.cell? ⟨w.heap.size + 1, 2, none⟩ = some (.int .i64 0) := hZ.cell 2
    have z3 : w2.cell? ⟨w.heap.size + 1, 3, none⟩ = some (.int .i64 0) := hZ.cell 3
    have f0 := hZ.frozen 0
    have f1 := hZ.frozen 1
    have f2 := hZ.frozen 2
    have f3 := hZ.frozen 3
    have H2 : Hid (Blk 32 w2 (w.heap.size + 1) [.int .i64 0, .int .i64 0, .int .i64 0, .int .i64 0] ∧ Below w.heap.size w w2) := ⟨hZ, hW⟩
    clear hZ hW
    go_wp2_with (go_at_call 49; refine (HN.out _ _ H2.out.2).mono ?_; rintro e w9 ⟨rfl, rfl⟩)
    have hz := zer.out _ H2.out.2 H2.out.1 0 0 0 0
    refine bodyPost_ret (results_blk2 rfl rfl hz.1 Tryz.underlying32 rfl Tryz.sizeAl rfl) rfl ⟨?_, hz.2⟩
    rw [HOn.out]
    exact ⟨_, rfl⟩
end Go.Proofs.YtillkhjihggcjaaGreatDoor
