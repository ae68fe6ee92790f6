/-
  Curve: triples: whether one is far; the sum of two with one Z; twice one.
-/
import Derived.Deep.RegionHeld3
import Derived.Test.YtkdclocjijmgpaaK7
namespace Go.Proofs.Ytkdclocjijmgpaa
open Go.RowKit
set_option maxRecDepth 20000
/-- What a block without numbers has turned into turns no number. -/
theorem sl_upd {k : IntKind} {T : TypeId} {w w' : World} {b : Nat} {cs : List Value} {v : Value} {xs : List Int} (h : Sl k w v xs) (hB : Blk T w b cs) (hc : ∀ c ∈ cs, ∀ n, c ≠ .int k n) (hU : Upd w w' b) : Sl k w' v xs := by
  obtain ⟨a, c, rfl, hl, h1⟩ := h
  refine ⟨a, c, rfl, hl, ?_⟩
  by_cases h0 : xs = []
  · exact .inl h0
  rcases h1 with h1 | ⟨b', off, rfl, hb, hr⟩
  · exact absurd h1 h0
  refine .inr ⟨b', off, rfl, Nat.lt_of_lt_of_le hb hU.size, hU.rd hb hr fun he => ?_⟩
  subst he
  have h2 := hr 0 (List.length_pos_iff.2 h0)
  rw [hB.cell] at h2
  exact hc _ (List.mem_of_getElem? h2) _ rfl
theorem Nb.upd {T : TypeId} {w w' : World} {b : Nat} {cs : List Value} {v : Value} {x : Nat} (h : Nb w v x) (hB : Blk T w b cs) (hc : ∀ c ∈ cs, ∀ n, c ≠ .int .u32 n) (hU : Upd w w' b) : Nb w' v x := sl_upd h hB hc hU
set_option maxHeartbeats 1000000 in
theorem TisFar {w : World} (v0 v1 v2 : Value) (z : Nat) (h2 : Nb w v2 z) :
    Calls Try.prog 47 #[.agg #[v0, v1, v2]] w fun e w' => e = .returned (.bool (decide (z = 0))) ∧ Below w.heap.size w w' := by
  obtain ⟨a, c, rfl⟩ := h2.form
  obtain ⟨n, hn⟩ : ∃ n, (lim z).length = n := ⟨_, rfl⟩
  have HZ : Hid (decide (z = 0) = ((n : Int) == 0)) := by
    show _ = _
    have := lim0 (x := z); rw [hn] at this
    by_cases h : z = 0
    · have h1 := this.2 h; subst h1; simp [h]
    · have h1 : n ≠ 0 := fun hh => h (this.1 hh)
      simp [h]; exact fun hh => h1 (by omega)
  rw [hn]
  clear h2 hn
  go_enter Try.func47, Try.ntmps47
  go_upto_region 1 with (refine wpList_boxR rfl 58 (.tmp 0) rfl #[v0, v1, .slice a n c] rfl ?_)
  refine wp_gen (fun W => Blk 58 W w.heap.size [v0, v1, .slice a n c] ∧ Below w.heap.size w W) ⟨Blk.new _ w _, al1 _⟩ ?_
  rintro W2 ⟨hB, hBw⟩
  have hc2 : W2.cell? ⟨w.heap.size, 2, none⟩ = some (.slice a n c) := hB.cell 2
  have HB : Hid (Below w.heap.size w W2) := hBw
  clear hB hBw
  go_wp2
  go_ret
  exact ⟨by rw [HZ.out]; rfl, HB.out⟩
end Go.Proofs.Ytkdclocjijmgpaa
/-
  Curve: the sum of two triples with one Z; twice a triple.
-/
namespace Go.Proofs.Ytkdclocjijmgpaa
open Go.RowKit
set_option maxRecDepth 20000
theorem Try.sizeTr : (Try.prog.info? 58).map (·.size) = some 3 := by kernel_rfl
/-- Three cells put. -/
theorem Blk.put3 {T : TypeId} {w : World} {b : Nat} {u0 u1 u2 : Value} (h : Blk T w b [u0, u1, u2]) (v0 v1 v2 : Value) :
    Blk T (((w.setCell ⟨b, 0, none⟩ v0).setCell ⟨b, 1, none⟩ v1).setCell ⟨b, 2, none⟩ v2) b [v0, v1, v2] ∧ Upd w (((w.setCell ⟨b, 0, none⟩ v0).setCell ⟨b, 1, none⟩ v1).setCell ⟨b, 2, none⟩ v2) b :=
  ⟨((h.set 0 v0).set 1 v1).set 2 v2, ((Upd.set w b 0 _).trans (Upd.set _ b 1 _)).trans (Upd.set _ b 2 _)⟩
def jch (p x y dx dy z : Nat) : Nat × Nat × Nat :=
  let sq := fml p dx dx
  let cu := fml p sq dx
  let wi := fml p sq x
  let su := fsb p (fsb p (fml p dy dy) cu) (fad p wi wi)
  (su, fsb p (fml p dy (fsb p wi su)) (fml p y cu), fml p z dx)
def jdb (p x y z : Nat) : Nat × Nat × Nat :=
  let zz := fml p z z
  let yy := fml p y y
  let q := fml p (fsb p x zz) (fad p x zz)
  let sl := fad p (fad p q q) q
  let q2 := fml p x yy
  let q3 := fad p q2 q2
  let x4 := fad p q3 q3
  let q4 := fad p yy yy
  let q5 := fml p q4 q4
  let y8 := fad p q5 q5
  let su := fsb p (fml p sl sl) (fad p x4 x4)
  let q6 := fml p y z
  (su, fsb p (fml p sl (fsb p x4 su)) y8, fad p q6 q6)

set_option maxHeartbeats 4000000 in
theorem Tchord {w : World} (f rx ry rdx rdy rz : Value) (p xx xy xdx xdy xz : Nat) (hf : Fld w f p) (hx : Nb w rx xx) (hy : Nb w ry xy) (hdx : Nb w rdx xdx) (hdy : Nb w rdy xdy) (hz : Nb w rz xz) (lx : xx < p) (ly : xy < p) (ldx : xdx < p) (ldy : xdy < p) (lz : xz < p) :
    Calls Try.prog 51 #[f, rx, ry, rdx, rdy, rz] w fun e w' => ∃ r0 r1 r2, e = .returned (.agg #[r0, r1, r2]) ∧ Nb w' r0 (jch p xx xy xdx xdy xz).1 ∧ Nb w' r1 (jch p xx xy xdx xdy xz).2.1 ∧ Nb w' r2 (jch p xx xy xdx xdy xz).2.2 ∧ Below w.heap.size w w' := by
  have Lx : Hid (xx < p) := lx
  have Ly : Hid (xy < p) := ly
  have Ldx : Hid (xdx < p) := ldx
  have Ldy : Hid (xdy < p) := ldy
  have Lz : Hid (xz < p) := lz
  have HJ : Hid (∀ s, jch p xx xy xdx xdy xz = s → jch p xx xy xdx xdy xz = s) := fun _ h => h
  obtain ⟨J, hJ⟩ : ∃ J, jch p xx xy xdx xdy xz = J := ⟨_, rfl⟩
  rw [hJ]
  have HJ : Hid (jch p xx xy xdx xdy xz = J) := hJ
  have HA : Hid (Fld w f p ∧ Nb w rx xx ∧ Nb w ry xy ∧ Nb w rdx xdx ∧ Nb w rdy xdy ∧ Nb w rz xz) := ⟨hf, hx, hy, hdx, hdy, hz⟩
  clear hf hx hy hdx hdy hz lx ly ldx ldy lz hJ
  go_enter Try.func51, Try.ntmps51
  go_upto_region 1 with (fail)
  refine wp_gen (fun W => Blk 58 W w.heap.size [.slice none 0 0, .slice none 0 0, .slice none 0 0] ∧ Below w.heap.size w W) ⟨Blk.new _ w _, al1 _⟩ ?_
  rintro W2 ⟨hB, hBw⟩
  have HBk : Hid (∀ W, Below W2.heap.size W2 W → Blk 58 W w.heap.size [.slice none 0 0, .slice none 0 0, .slice none 0 0]) := fun W h => below_blk h hB.lt hB
  have H0 : Hid (Below W2.heap.size W2 W2 ∧ Fld W2 f p ∧ Nb W2 rx xx ∧ Nb W2 ry xy ∧ Nb W2 rdx xdx ∧ Nb W2 rdy xdy ∧ Nb W2 rz xz ∧ True) := ⟨Below.refl _ _, HA.out.1.below hBw, HA.out.2.1.below hBw, HA.out.2.2.1.below hBw, HA.out.2.2.2.1.below hBw, HA.out.2.2.2.2.1.below hBw, HA.out.2.2.2.2.2.below hBw, trivial⟩
  have HBw : Hid (Below w.heap.size w W2) := hBw
  clear hB hBw HA
  go_wp2_with fail
  refine (Fsquare f _ p xdx H0.out.2.1 H0.out.2.2.2.2.1 Ldx.out).mono ?_
  rintro e w1 ⟨rsq, rfl, hr, hb⟩
  obtain ⟨xsq, hx⟩ : ∃ x, fml p xdx xdx = x := ⟨_, rfl⟩
  rw [hx] at hr
  have Esq : Hid (fml p xdx xdx = xsq) := hx
  have Lsq : Hid (xsq < p) := by show _ < _; rw [← hx]; exact fml_lt H0.out.2.1.2.1
  have H1 : Hid (Below W2.heap.size W2 w1 ∧ Fld w1 f p ∧ Nb w1 rx xx ∧ Nb w1 ry xy ∧ Nb w1 rdx xdx ∧ Nb w1 rdy xdy ∧ Nb w1 rz xz ∧ Nb w1 rsq xsq ∧ True) := ⟨below_via H0.out.1 hb (Nat.le_refl _), H0.out.2.1.below hb, (H0.out.2.2.1).below hb, (H0.out.2.2.2.1).below hb, (H0.out.2.2.2.2.1).below hb, (H0.out.2.2.2.2.2.1).below hb, (H0.out.2.2.2.2.2.2.1).below hb, hr, trivial⟩
  clear hr hb hx H0
  go_wp2_with fail
  refine (Ftimes f _ _ p xsq xdx H1.out.2.1 H1.out.2.2.2.2.2.2.2.1 H1.out.2.2.2.2.1 Lsq.out Ldx.out).mono ?_
  rintro e w2 ⟨rcu, rfl, hr, hb⟩
  obtain ⟨xcu, hx⟩ : ∃ x, fml p xsq xdx = x := ⟨_, rfl⟩
  rw [hx] at hr
  have Ecu : Hid (fml p xsq xdx = xcu) := hx
  have Lcu : Hid (xcu < p) := by show _ < _; rw [← hx]; exact fml_lt H1.out.2.1.2.1
  have H2 : Hid (Below W2.heap.size W2 w2 ∧ Fld w2 f p ∧ Nb w2 rx xx ∧ Nb w2 ry xy ∧ Nb w2 rdx xdx ∧ Nb w2 rdy xdy ∧ Nb w2 rz xz ∧ Nb w2 rsq xsq ∧ Nb w2 rcu xcu ∧ True) := ⟨below_via H1.out.1 hb (Nat.le_refl _), H1.out.2.1.below hb, (H1.out.2.2.1).below hb, (H1.out.2.2.2.1).below hb, (H1.out.2.2.2.2.1).below hb, (H1.out.2.2.2.2.2.1).below hb, (H1.out.2.2.2.2.2.2.1).below hb, (H1.out.2.2.2.2.2.2.2.1).below hb, hr, trivial⟩
  clear hr hb hx H1
  go_wp2_with fail
  refine (Ftimes f _ _ p xsq xx H2.out.2.1 H2.out.2.2.2.2.2.2.2.1 H2.out.2.2.1 Lsq.out Lx.out).mono ?_
  rintro e w3 ⟨rwi, rfl, hr, hb⟩
  obtain ⟨xwi, hx⟩ : ∃ x, fml p xsq xx = x := ⟨_, rfl⟩
  rw [hx] at hr
  have Ewi : Hid (fml p xsq xx = xwi) := hx
  have Lwi : Hid (xwi < p) := by show _ < _; rw [← hx]; exact fml_lt H2.out.2.1.2.1
  have H3 : Hid (Below W2.heap.size W2 w3 ∧ Fld w3 f p ∧ Nb w3 ry xy ∧ Nb w3 rdx xdx ∧ Nb w3 rdy xdy ∧ Nb w3 rz xz ∧ Nb w3 rcu xcu ∧ Nb w3 rwi xwi ∧ True) := ⟨below_via H2.out.1 hb (Nat.le_refl _), H2.out.2.1.below hb, (H2.out.2.2.2.1).below hb, (H2.out.2.2.2.2.1).below hb, (H2.out.2.2.2.2.2.1).below hb, (H2.out.2.2.2.2.2.2.1).below hb, (H2.out.2.2.2.2.2.2.2.2.1).below hb, hr, trivial⟩
  clear hr hb hx H2
  go_wp2_with fail
  refine (Fsquare f _ p xdy H3.out.2.1 H3.out.2.2.2.2.1 Ldy.out).mono ?_
  rintro e w4 ⟨rq1, rfl, hr, hb⟩
  obtain ⟨xq1, hx⟩ : ∃ x, fml p xdy xdy = x := ⟨_, rfl⟩
  rw [hx] at hr
  have Eq1 : Hid (fml p xdy xdy = xq1) := hx
  have Lq1 : Hid (xq1 < p) := by show _ < _; rw [← hx]; exact fml_lt H3.out.2.1.2.1
  have H4 : Hid (Below W2.heap.size W2 w4 ∧ Fld w4 f p ∧ Nb w4 ry xy ∧ Nb w4 rdx xdx ∧ Nb w4 rdy xdy ∧ Nb w4 rz xz ∧ Nb w4 rcu xcu ∧ Nb w4 rwi xwi ∧ Nb w4 rq1 xq1 ∧ True) := ⟨below_via H3.out.1 hb (Nat.le_refl _), H3.out.2.1.below hb, (H3.out.2.2.1).below hb, (H3.out.2.2.2.1).below hb, (H3.out.2.2.2.2.1).below hb, (H3.out.2.2.2.2.2.1).below hb, (H3.out.2.2.2.2.2.2.1).below hb, (H3.out.2.2.2.2.2.2.2.1).below hb, hr, trivial⟩
  clear hr hb hx H3
  go_wp2_with fail
  refine (Fminus f _ _ p xq1 xcu H4.out.2.1 H4.out.2.2.2.2.2.2.2.2.1 H4.out.2.2.2.2.2.2.1 Lq1.out Lcu.out).mono ?_
  rintro e w5 ⟨rq2, rfl, hr, hb⟩
  obtain ⟨xq2, hx⟩ : ∃ x, fsb p xq1 xcu = x := ⟨_, rfl⟩
  rw [hx] at hr
  have Eq2 : Hid (fsb p xq1 xcu = xq2) := hx
  have Lq2 : Hid (xq2 < p) := by show _ < _; rw [← hx]; exact fsb_lt H4.out.2.1.2.1
  have H5 : Hid (Below W2.heap.size W2 w5 ∧ Fld w5 f p ∧ Nb w5 ry xy ∧ Nb w5 rdx xdx ∧ Nb w5 rdy xdy ∧ Nb w5 rz xz ∧ Nb w5 rcu xcu ∧ Nb w5 rwi xwi ∧ Nb w5 rq2 xq2 ∧ True) := ⟨below_via H4.out.1 hb (Nat.le_refl _), H4.out.2.1.below hb, (H4.out.2.2.1).below hb, (H4.out.2.2.2.1).below hb, (H4.out.2.2.2.2.1).below hb, (H4.out.2.2.2.2.2.1).below hb, (H4.out.2.2.2.2.2.2.1).below hb, (H4.out.2.2.2.2.2.2.2.1).below hb, hr, trivial⟩
  clear hr hb hx H4
  go_wp2_with fail
  refine (Ftwice f _ p xwi H5.out.2.1 H5.out.2.2.2.2.2.2.2.1 Lwi.out).mono ?_
  rintro e w6 ⟨rq3, rfl, hr, hb⟩
  obtain ⟨xq3, hx⟩ : ∃ x, fad p xwi xwi = x := ⟨_, rfl⟩
  rw [hx] at hr
  have Eq3 : Hid (fad p xwi xwi = xq3) := hx
  have Lq3 : Hid (xq3 < p) := by show _ < _; rw [← hx]; exact fad_lt H5.out.2.1.2.1
  have H6 : Hid (Below W2.heap.size W2 w6 ∧ Fld w6 f p ∧ Nb w6 ry xy ∧ Nb w6 rdx xdx ∧ Nb w6 rdy xdy ∧ Nb w6 rz xz ∧ Nb w6 rcu xcu ∧ Nb w6 rwi xwi ∧ Nb w6 rq2 xq2 ∧ Nb w6 rq3 xq3 ∧ True) := ⟨below_via H5.out.1 hb (Nat.le_refl _), H5.out.2.1.below hb, (H5.out.2.2.1).below hb, (H5.out.2.2.2.1).below hb, (H5.out.2.2.2.2.1).below hb, (H5.out.2.2.2.2.2.1).below hb, (H5.out.2.2.2.2.2.2.1).below hb, (H5.out.2.2.2.2.2.2.2.1).below hb, (H5.out.2.2.2.2.2.2.2.2.1).below hb, hr, trivial⟩
  clear hr hb hx H5
  go_wp2_with fail
  refine (Fminus f _ _ p xq2 xq3 H6.out.2.1 H6.out.2.2.2.2.2.2.2.2.1 H6.out.2.2.2.2.2.2.2.2.2.1 Lq2.out Lq3.out).mono ?_
  rintro e w7 ⟨rsu, rfl, hr, hb⟩
  obtain ⟨xsu, hx⟩ : ∃ x, fsb p xq2 xq3 = x := ⟨_, rfl⟩
  rw [hx] at hr
  have Esu : Hid (fsb p xq2 xq3 = xsu) := hx
  have Lsu : Hid (xsu < p) := by show _ < _; rw [← hx]; exact fsb_lt H6.out.2.1.2.1
  have H7 : Hid (Below W2.heap.size W2 w7 ∧ Fld w7 f p ∧ Nb w7 ry xy ∧ Nb w7 rdx xdx ∧ Nb w7 rdy xdy ∧ Nb w7 rz xz ∧ Nb w7 rcu xcu ∧ Nb w7 rwi xwi ∧ Nb w7 rsu xsu ∧ True) := ⟨below_via H6.out.1 hb (Nat.le_refl _), H6.out.2.1.below hb, (H6.out.2.2.1).below hb, (H6.out.2.2.2.1).below hb, (H6.out.2.2.2.2.1).below hb, (H6.out.2.2.2.2.2.1).below hb, (H6.out.2.2.2.2.2.2.1).below hb, (H6.out.2.2.2.2.2.2.2.1).below hb, hr, trivial⟩
  clear hr hb hx H6
  go_wp2_with fail
  refine (Fminus f _ _ p xwi xsu H7.out.2.1 H7.out.2.2.2.2.2.2.2.1 H7.out.2.2.2.2.2.2.2.2.1 Lwi.out Lsu.out).mono ?_
  rintro e w8 ⟨rq4, rfl, hr, hb⟩
  obtain ⟨xq4, hx⟩ : ∃ x, fsb p xwi xsu = x := ⟨_, rfl⟩
  rw [hx] at hr
  have Eq4 : Hid (fsb p xwi xsu = xq4) := hx
  have Lq4 : Hid (xq4 < p) := by show _ < _; rw [← hx]; exact fsb_lt H7.out.2.1.2.1
  have H8 : Hid (Below W2.heap.size W2 w8 ∧ Fld w8 f p ∧ Nb w8 ry xy ∧ Nb w8 rdx xdx ∧ Nb w8 rdy xdy ∧ Nb w8 rz xz ∧ Nb w8 rcu xcu ∧ Nb w8 rsu xsu ∧ Nb w8 rq4 xq4 ∧ True) := ⟨below_via H7.out.1 hb (Nat.le_refl _), H7.out.2.1.below hb, (H7.out.2.2.1).below hb, (H7.out.2.2.2.1).below hb, (H7.out.2.2.2.2.1).below hb, (H7.out.2.2.2.2.2.1).below hb, (H7.out.2.2.2.2.2.2.1).below hb, (H7.out.2.2.2.2.2.2.2.2.1).below hb, hr, trivial⟩
  clear hr hb hx H7
  go_wp2_with fail
  refine (Ftimes f _ _ p xdy xq4 H8.out.2.1 H8.out.2.2.2.2.1 H8.out.2.2.2.2.2.2.2.2.1 Ldy.out Lq4.out).mono ?_
  rintro e w9 ⟨rq5, rfl, hr, hb⟩
  obtain ⟨xq5, hx⟩ : ∃ x, fml p xdy xq4 = x := ⟨_, rfl⟩
  rw [hx] at hr
  have Eq5 : Hid (fml p xdy xq4 = xq5) := hx
  have Lq5 : Hid (xq5 < p) := by show _ < _; rw [← hx]; exact fml_lt H8.out.2.1.2.1
  have H9 : Hid (Below W2.heap.size W2 w9 ∧ Fld w9 f p ∧ Nb w9 ry xy ∧ Nb w9 rdx xdx ∧ Nb w9 rz xz ∧ Nb w9 rcu xcu ∧ Nb w9 rsu xsu ∧ Nb w9 rq5 xq5 ∧ True) := ⟨below_via H8.out.1 hb (Nat.le_refl _), H8.out.2.1.below hb, (H8.out.2.2.1).below hb, (H8.out.2.2.2.1).below hb, (H8.out.2.2.2.2.2.1).below hb, (H8.out.2.2.2.2.2.2.1).below hb, (H8.out.2.2.2.2.2.2.2.1).below hb, hr, trivial⟩
  clear hr hb hx H8
  go_wp2_with fail
  refine (Ftimes f _ _ p xy xcu H9.out.2.1 H9.out.2.2.1 H9.out.2.2.2.2.2.1 Ly.out Lcu.out).mono ?_
  rintro e w10 ⟨rq6, rfl, hr, hb⟩
  obtain ⟨xq6, hx⟩ : ∃ x, fml p xy xcu = x := ⟨_, rfl⟩
  rw [hx] at hr
  have Eq6 : Hid (fml p xy xcu = xq6) := hx
  have Lq6 : Hid (xq6 < p) := by show _ < _; rw [← hx]; exact fml_lt H9.out.2.1.2.1
  have H10 : Hid (Below W2.heap.size W2 w10 ∧ Fld w10 f p ∧ Nb w10 rdx xdx ∧ Nb w10 rz xz ∧ Nb w10 rsu xsu ∧ Nb w10 rq5 xq5 ∧ Nb w10 rq6 xq6 ∧ True) := ⟨below_via H9.out.1 hb (Nat.le_refl _), H9.out.2.1.below hb, (H9.out.2.2.2.1).below hb, (H9.out.2.2.2.2.1).below hb, (H9.out.2.2.2.2.2.2.1).below hb, (H9.out.2.2.2.2.2.2.2.1).below hb, hr, trivial⟩
  clear hr hb hx H9
  go_wp2_with fail
  refine (Fminus f _ _ p xq5 xq6 H10.out.2.1 H10.out.2.2.2.2.2.1 H10.out.2.2.2.2.2.2.1 Lq5.out Lq6.out).mono ?_
  rintro e w11 ⟨rq7, rfl, hr, hb⟩
  obtain ⟨xq7, hx⟩ : ∃ x, fsb p xq5 xq6 = x := ⟨_, rfl⟩
  rw [hx] at hr
  have Eq7 : Hid (fsb p xq5 xq6 = xq7) := hx
  have Lq7 : Hid (xq7 < p) := by show _ < _; rw [← hx]; exact fsb_lt H10.out.2.1.2.1
  have H11 : Hid (Below W2.heap.size W2 w11 ∧ Fld w11 f p ∧ Nb w11 rdx xdx ∧ Nb w11 rz xz ∧ Nb w11 rsu xsu ∧ Nb w11 rq7 xq7 ∧ True) := ⟨below_via H10.out.1 hb (Nat.le_refl _), H10.out.2.1.below hb, (H10.out.2.2.1).below hb, (H10.out.2.2.2.1).below hb, (H10.out.2.2.2.2.1).below hb, hr, trivial⟩
  clear hr hb hx H10
  go_wp2_with fail
  refine (Ftimes f _ _ p xz xdx H11.out.2.1 H11.out.2.2.2.1 H11.out.2.2.1 Lz.out Ldx.out).mono ?_
  rintro e w12 ⟨rq8, rfl, hr, hb⟩
  obtain ⟨xq8, hx⟩ : ∃ x, fml p xz xdx = x := ⟨_, rfl⟩
  rw [hx] at hr
  have Eq8 : Hid (fml p xz xdx = xq8) := hx
  have Lq8 : Hid (xq8 < p) := by show _ < _; rw [← hx]; exact fml_lt H11.out.2.1.2.1
  have H12 : Hid (Below W2.heap.size W2 w12 ∧ Fld w12 f p ∧ Nb w12 rsu xsu ∧ Nb w12 rq7 xq7 ∧ Nb w12 rq8 xq8 ∧ True) := ⟨below_via H11.out.1 hb (Nat.le_refl _), H11.out.2.1.below hb, (H11.out.2.2.2.2.1).below hb, (H11.out.2.2.2.2.2.1).below hb, hr, trivial⟩
  clear hr hb hx H11
  have hJ2 : J = (xsu, xq7, xq8) := by rw [← HJ.out]; simp only [jch, Esq.out, Ecu.out, Ewi.out, Eq1.out, Eq2.out, Eq3.out, Esu.out, Eq4.out, Eq5.out, Eq6.out, Eq7.out, Eq8.out]
  subst hJ2
  have hB := HBk.out w12 H12.out.1
  have d0 := hB.cell 0; have d1 := hB.cell 1; have d2 := hB.cell 2; have g0 := hB.frozen 0; have g1 := hB.frozen 1; have g2 := hB.frozen 2
  obtain ⟨asu, csu, hqsu⟩ := (H12.out.2.2.1).form
  obtain ⟨aq7, cq7, hqq7⟩ := (H12.out.2.2.2.1).form
  obtain ⟨aq8, cq8, hqq8⟩ := (H12.out.2.2.2.2.1).form
  have HF : Hid (Blk 58 w12 w.heap.size [.slice none 0 0, .slice none 0 0, .slice none 0 0] ∧ Below w.heap.size w w12 ∧ Nb w12 rsu xsu ∧ Nb w12 rq7 xq7 ∧ Nb w12 rq8 xq8) := ⟨hB, below_via HBw.out H12.out.1 (Nat.le_refl _), H12.out.2.2.1, H12.out.2.2.2.1, H12.out.2.2.2.2.1⟩
  clear hB H12 HBk HBw HJ
  subst hqsu hqq7 hqq8
  simp at d0 d1 d2
  go_wp2
  obtain ⟨hF, hU⟩ := Blk.put3 HF.out.1 (.slice asu (lim xsu).length csu) (.slice aq7 (lim xq7).length cq7) (.slice aq8 (lim xq8).length cq8)
  have hbl := hU.below HF.out.2.1 HF.out.2.1.size (Nat.le_refl _)
  have hnn : ∀ c ∈ [Value.slice none 0 0, Value.slice none 0 0, Value.slice none 0 0], ∀ n, c ≠ .int .u32 n := by intro c hc; simp at hc; subst hc; intro n h; cases h
  exact bodyPost_ret (v := .agg [.slice asu (lim xsu).length csu, .slice aq7 (lim xq7).length cq7, .slice aq8 (lim xq8).length cq8].toArray) (results_blk (b := w.heap.size) (cs := [.slice asu (lim xsu).length csu, .slice aq7 (lim xq7).length cq7, .slice aq8 (lim xq8).length cq8]) rfl rfl hF Try.underlying58 rfl Try.sizeTr) rfl ⟨_, _, _, rfl, HF.out.2.2.1.upd HF.out.1 hnn hU, HF.out.2.2.2.1.upd HF.out.1 hnn hU, HF.out.2.2.2.2.upd HF.out.1 hnn hU, hbl⟩
set_option maxHeartbeats 4000000 in
theorem Tdouble {w : World} (f rx ry rz : Value) (p xx xy xz : Nat) (hf : Fld w f p) (hx : Nb w rx xx) (hy : Nb w ry xy) (hz : Nb w rz xz) (lx : xx < p) (ly : xy < p) (lz : xz < p) :
    Calls Try.prog 52 #[f, .agg #[rx, ry, rz]] w fun e w' => ∃ r0 r1 r2, e = .returned (.agg #[r0, r1, r2]) ∧ Nb w' r0 (jdb p xx xy xz).1 ∧ Nb w' r1 (jdb p xx xy xz).2.1 ∧ Nb w' r2 (jdb p xx xy xz).2.2 ∧ Below w.heap.size w w' := by
  have Lx : Hid (xx < p) := lx
  have Ly : Hid (xy < p) := ly
  have Lz : Hid (xz < p) := lz
  obtain ⟨J, hJ⟩ : ∃ J, jdb p xx xy xz = J := ⟨_, rfl⟩
  rw [hJ]
  have HJ : Hid (jdb p xx xy xz = J) := hJ
  have HA : Hid (Fld w f p ∧ Nb w rx xx ∧ Nb w ry xy ∧ Nb w rz xz) := ⟨hf, hx, hy, hz⟩
  obtain ⟨ax, cx, hqx⟩ := hx.form
  obtain ⟨ay, cy, hqy⟩ := hy.form
  obtain ⟨az, cz, hqz⟩ := hz.form
  have HV : Hid (rx = .slice ax (lim xx).length cx ∧ ry = .slice ay (lim xy).length cy ∧ rz = .slice az (lim xz).length cz) := ⟨hqx, hqy, hqz⟩
  clear hf hx hy hz lx ly lz hJ hqx hqy hqz
  go_enter Try.func52, Try.ntmps52
  go_upto_region 1 with (refine wpList_boxR rfl 58 (.tmp 1) rfl #[rx, ry, rz] rfl ?_)
  refine wp_gen (fun W => Blk 58 W w.heap.size [rx, ry, rz] ∧ Blk 58 W (w.heap.size + 1) [.slice none 0 0, .slice none 0 0, .slice none 0 0] ∧ Below w.heap.size w W) ⟨(Blk.new _ w [rx, ry, rz]).alloc _, by have := Blk.new 58 (w.alloc (.cells [rx, ry, rz].toArray 58)) [.slice none 0 0, .slice none 0 0, .slice none 0 0]; rw [World.size_alloc] at this; exact this, (al1 _).alloc (by simp) _⟩ ?_
  rintro W2 ⟨hC, hB, hBw⟩
  have e0 : W2.cell? ⟨w.heap.size, 0, none⟩ = some rx := hC.cell 0
  have e1 : W2.cell? ⟨w.heap.size, 1, none⟩ = some ry := hC.cell 1
  have e2 : W2.cell? ⟨w.heap.size, 2, none⟩ = some rz := hC.cell 2
  have HA2 : Hid (Fld W2 f p ∧ Nb W2 rx xx ∧ Nb W2 ry xy ∧ Nb W2 rz xz) := ⟨HA.out.1.below hBw, HA.out.2.1.below hBw, HA.out.2.2.1.below hBw, HA.out.2.2.2.below hBw⟩
  have HBk : Hid (∀ W, Below W2.heap.size W2 W → Blk 58 W (w.heap.size + 1) [.slice none 0 0, .slice none 0 0, .slice none 0 0]) := fun W h => below_blk h hB.lt hB
  have HBw : Hid (Below w.heap.size w W2) := hBw
  clear hB hBw HA hC
  go_wp2_with fail
  go_quiet (fail)
  have hb3 : Below W2.heap.size W2 (W2.drewN nq) := below_drewN nq (Below.refl _ _)
  obtain ⟨W3, hW3⟩ : ∃ W3, W2.drewN nq = W3 := ⟨_, rfl⟩
  rw [hW3] at hb3 ⊢
  have H0 : Hid (Below W2.heap.size W2 W3 ∧ Fld W3 f p ∧ Nb W3 rx xx ∧ Nb W3 ry xy ∧ Nb W3 rz xz ∧ True) := ⟨hb3, HA2.out.1.below hb3, HA2.out.2.1.below hb3, HA2.out.2.2.1.below hb3, HA2.out.2.2.2.below hb3, trivial⟩
  clear hb3 hW3 HA2 e0 e1 e2 HV
  go_wp2_with fail
  refine (Fsquare f _ p xz H0.out.2.1 H0.out.2.2.2.2.1 Lz.out).mono ?_
  rintro e w1 ⟨rzz, rfl, hr, hb⟩
  obtain ⟨xzz, hx⟩ : ∃ x, fml p xz xz = x := ⟨_, rfl⟩
  rw [hx] at hr
  have Ezz : Hid (fml p xz xz = xzz) := hx
  have Lzz : Hid (xzz < p) := by show _ < _; rw [← hx]; exact fml_lt H0.out.2.1.2.1
  have H1 : Hid (Below W2.heap.size W2 w1 ∧ Fld w1 f p ∧ Nb w1 rx xx ∧ Nb w1 ry xy ∧ Nb w1 rz xz ∧ Nb w1 rzz xzz ∧ True) := ⟨below_via H0.out.1 hb (Nat.le_refl _), H0.out.2.1.below hb, (H0.out.2.2.1).below hb, (H0.out.2.2.2.1).below hb, (H0.out.2.2.2.2.1).below hb, hr, trivial⟩
  clear hr hb hx H0
  go_wp2_with fail
  refine (Fsquare f _ p xy H1.out.2.1 H1.out.2.2.2.1 Ly.out).mono ?_
  rintro e w2 ⟨ryy, rfl, hr, hb⟩
  obtain ⟨xyy, hx⟩ : ∃ x, fml p xy xy = x := ⟨_, rfl⟩
  rw [hx] at hr
  have Eyy : Hid (fml p xy xy = xyy) := hx
  have Lyy : Hid (xyy < p) := by show _ < _; rw [← hx]; exact fml_lt H1.out.2.1.2.1
  have H2 : Hid (Below W2.heap.size W2 w2 ∧ Fld w2 f p ∧ Nb w2 rx xx ∧ Nb w2 ry xy ∧ Nb w2 rz xz ∧ Nb w2 rzz xzz ∧ Nb w2 ryy xyy ∧ True) := ⟨below_via H1.out.1 hb (Nat.le_refl _), H1.out.2.1.below hb, (H1.out.2.2.1).below hb, (H1.out.2.2.2.1).below hb, (H1.out.2.2.2.2.1).below hb, (H1.out.2.2.2.2.2.1).below hb, hr, trivial⟩
  clear hr hb hx H1
  go_wp2_with fail
  refine (Fminus f _ _ p xx xzz H2.out.2.1 H2.out.2.2.1 H2.out.2.2.2.2.2.1 Lx.out Lzz.out).mono ?_
  rintro e w3 ⟨rq0, rfl, hr, hb⟩
  obtain ⟨xq0, hx⟩ : ∃ x, fsb p xx xzz = x := ⟨_, rfl⟩
  rw [hx] at hr
  have Eq0 : Hid (fsb p xx xzz = xq0) := hx
  have Lq0 : Hid (xq0 < p) := by show _ < _; rw [← hx]; exact fsb_lt H2.out.2.1.2.1
  have H3 : Hid (Below W2.heap.size W2 w3 ∧ Fld w3 f p ∧ Nb w3 rx xx ∧ Nb w3 ry xy ∧ Nb w3 rz xz ∧ Nb w3 rzz xzz ∧ Nb w3 ryy xyy ∧ Nb w3 rq0 xq0 ∧ True) := ⟨below_via H2.out.1 hb (Nat.le_refl _), H2.out.2.1.below hb, (H2.out.2.2.1).below hb, (H2.out.2.2.2.1).below hb, (H2.out.2.2.2.2.1).below hb, (H2.out.2.2.2.2.2.1).below hb, (H2.out.2.2.2.2.2.2.1).below hb, hr, trivial⟩
  clear hr hb hx H2
  go_wp2_with fail
  refine (Fplus f _ _ p xx xzz H3.out.2.1 H3.out.2.2.1 H3.out.2.2.2.2.2.1 Lx.out Lzz.out).mono ?_
  rintro e w4 ⟨rq1, rfl, hr, hb⟩
  obtain ⟨xq1, hx⟩ : ∃ x, fad p xx xzz = x := ⟨_, rfl⟩
  rw [hx] at hr
  have Eq1 : Hid (fad p xx xzz = xq1) := hx
  have Lq1 : Hid (xq1 < p) := by show _ < _; rw [← hx]; exact fad_lt H3.out.2.1.2.1
  have H4 : Hid (Below W2.heap.size W2 w4 ∧ Fld w4 f p ∧ Nb w4 rx xx ∧ Nb w4 ry xy ∧ Nb w4 rz xz ∧ Nb w4 ryy xyy ∧ Nb w4 rq0 xq0 ∧ Nb w4 rq1 xq1 ∧ True) := ⟨below_via H3.out.1 hb (Nat.le_refl _), H3.out.2.1.below hb, (H3.out.2.2.1).below hb, (H3.out.2.2.2.1).below hb, (H3.out.2.2.2.2.1).below hb, (H3.out.2.2.2.2.2.2.1).below hb, (H3.out.2.2.2.2.2.2.2.1).below hb, hr, trivial⟩
  clear hr hb hx H3
  go_wp2_with fail
  refine (Ftimes f _ _ p xq0 xq1 H4.out.2.1 H4.out.2.2.2.2.2.2.1 H4.out.2.2.2.2.2.2.2.1 Lq0.out Lq1.out).mono ?_
  rintro e w5 ⟨rq, rfl, hr, hb⟩
  obtain ⟨xq, hx⟩ : ∃ x, fml p xq0 xq1 = x := ⟨_, rfl⟩
  rw [hx] at hr
  have Eq : Hid (fml p xq0 xq1 = xq) := hx
  have Lq : Hid (xq < p) := by show _ < _; rw [← hx]; exact fml_lt H4.out.2.1.2.1
  have H5 : Hid (Below W2.heap.size W2 w5 ∧ Fld w5 f p ∧ Nb w5 rx xx ∧ Nb w5 ry xy ∧ Nb w5 rz xz ∧ Nb w5 ryy xyy ∧ Nb w5 rq xq ∧ True) := ⟨below_via H4.out.1 hb (Nat.le_refl _), H4.out.2.1.below hb, (H4.out.2.2.1).below hb, (H4.out.2.2.2.1).below hb, (H4.out.2.2.2.2.1).below hb, (H4.out.2.2.2.2.2.1).below hb, hr, trivial⟩
  clear hr hb hx H4
  go_wp2_with fail
  refine (Fthrice f _ p xq H5.out.2.1 H5.out.2.2.2.2.2.2.1 Lq.out).mono ?_
  rintro e w6 ⟨rsl, rfl, hr, hb⟩
  obtain ⟨xsl, hx⟩ : ∃ x, fad p (fad p xq xq) xq = x := ⟨_, rfl⟩
  rw [hx] at hr
  have Esl : Hid (fad p (fad p xq xq) xq = xsl) := hx
  have Lsl : Hid (xsl < p) := by show _ < _; rw [← hx]; exact fad_lt H5.out.2.1.2.1
  have H6 : Hid (Below W2.heap.size W2 w6 ∧ Fld w6 f p ∧ Nb w6 rx xx ∧ Nb w6 ry xy ∧ Nb w6 rz xz ∧ Nb w6 ryy xyy ∧ Nb w6 rsl xsl ∧ True) := ⟨below_via H5.out.1 hb (Nat.le_refl _), H5.out.2.1.below hb, (H5.out.2.2.1).below hb, (H5.out.2.2.2.1).below hb, (H5.out.2.2.2.2.1).below hb, (H5.out.2.2.2.2.2.1).below hb, hr, trivial⟩
  clear hr hb hx H5
  go_wp2_with fail
  refine (Ftimes f _ _ p xx xyy H6.out.2.1 H6.out.2.2.1 H6.out.2.2.2.2.2.1 Lx.out Lyy.out).mono ?_
  rintro e w7 ⟨rq2, rfl, hr, hb⟩
  obtain ⟨xq2, hx⟩ : ∃ x, fml p xx xyy = x := ⟨_, rfl⟩
  rw [hx] at hr
  have Eq2 : Hid (fml p xx xyy = xq2) := hx
  have Lq2 : Hid (xq2 < p) := by show _ < _; rw [← hx]; exact fml_lt H6.out.2.1.2.1
  have H7 : Hid (Below W2.heap.size W2 w7 ∧ Fld w7 f p ∧ Nb w7 ry xy ∧ Nb w7 rz xz ∧ Nb w7 ryy xyy ∧ Nb w7 rsl xsl ∧ Nb w7 rq2 xq2 ∧ True) := ⟨below_via H6.out.1 hb (Nat.le_refl _), H6.out.2.1.below hb, (H6.out.2.2.2.1).below hb, (H6.out.2.2.2.2.1).below hb, (H6.out.2.2.2.2.2.1).below hb, (H6.out.2.2.2.2.2.2.1).below hb, hr, trivial⟩
  clear hr hb hx H6
  go_wp2_with fail
  refine (Ftwice f _ p xq2 H7.out.2.1 H7.out.2.2.2.2.2.2.1 Lq2.out).mono ?_
  rintro e w8 ⟨rq3, rfl, hr, hb⟩
  obtain ⟨xq3, hx⟩ : ∃ x, fad p xq2 xq2 = x := ⟨_, rfl⟩
  rw [hx] at hr
  have Eq3 : Hid (fad p xq2 xq2 = xq3) := hx
  have Lq3 : Hid (xq3 < p) := by show _ < _; rw [← hx]; exact fad_lt H7.out.2.1.2.1
  have H8 : Hid (Below W2.heap.size W2 w8 ∧ Fld w8 f p ∧ Nb w8 ry xy ∧ Nb w8 rz xz ∧ Nb w8 ryy xyy ∧ Nb w8 rsl xsl ∧ Nb w8 rq3 xq3 ∧ True) := ⟨below_via H7.out.1 hb (Nat.le_refl _), H7.out.2.1.below hb, (H7.out.2.2.1).below hb, (H7.out.2.2.2.1).below hb, (H7.out.2.2.2.2.1).below hb, (H7.out.2.2.2.2.2.1).below hb, hr, trivial⟩
  clear hr hb hx H7
  go_wp2_with fail
  refine (Ftwice f _ p xq3 H8.out.2.1 H8.out.2.2.2.2.2.2.1 Lq3.out).mono ?_
  rintro e w9 ⟨rx4, rfl, hr, hb⟩
  obtain ⟨xx4, hx⟩ : ∃ x, fad p xq3 xq3 = x := ⟨_, rfl⟩
  rw [hx] at hr
  have Ex4 : Hid (fad p xq3 xq3 = xx4) := hx
  have Lx4 : Hid (xx4 < p) := by show _ < _; rw [← hx]; exact fad_lt H8.out.2.1.2.1
  have H9 : Hid (Below W2.heap.size W2 w9 ∧ Fld w9 f p ∧ Nb w9 ry xy ∧ Nb w9 rz xz ∧ Nb w9 ryy xyy ∧ Nb w9 rsl xsl ∧ Nb w9 rx4 xx4 ∧ True) := ⟨below_via H8.out.1 hb (Nat.le_refl _), H8.out.2.1.below hb, (H8.out.2.2.1).below hb, (H8.out.2.2.2.1).below hb, (H8.out.2.2.2.2.1).below hb, (H8.out.2.2.2.2.2.1).below hb, hr, trivial⟩
  clear hr hb hx H8
  go_wp2_with fail
  refine (Ftwice f _ p xyy H9.out.2.1 H9.out.2.2.2.2.1 Lyy.out).mono ?_
  rintro e w10 ⟨rq4, rfl, hr, hb⟩
  obtain ⟨xq4, hx⟩ : ∃ x, fad p xyy xyy = x := ⟨_, rfl⟩
  rw [hx] at hr
  have Eq4 : Hid (fad p xyy xyy = xq4) := hx
  have Lq4 : Hid (xq4 < p) := by show _ < _; rw [← hx]; exact fad_lt H9.out.2.1.2.1
  have H10 : Hid (Below W2.heap.size W2 w10 ∧ Fld w10 f p ∧ Nb w10 ry xy ∧ Nb w10 rz xz ∧ Nb w10 rsl xsl ∧ Nb w10 rx4 xx4 ∧ Nb w10 rq4 xq4 ∧ True) := ⟨below_via H9.out.1 hb (Nat.le_refl _), H9.out.2.1.below hb, (H9.out.2.2.1).below hb, (H9.out.2.2.2.1).below hb, (H9.out.2.2.2.2.2.1).below hb, (H9.out.2.2.2.2.2.2.1).below hb, hr, trivial⟩
  clear hr hb hx H9
  go_wp2_with fail
  refine (Fsquare f _ p xq4 H10.out.2.1 H10.out.2.2.2.2.2.2.1 Lq4.out).mono ?_
  rintro e w11 ⟨rq5, rfl, hr, hb⟩
  obtain ⟨xq5, hx⟩ : ∃ x, fml p xq4 xq4 = x := ⟨_, rfl⟩
  rw [hx] at hr
  have Eq5 : Hid (fml p xq4 xq4 = xq5) := hx
  have Lq5 : Hid (xq5 < p) := by show _ < _; rw [← hx]; exact fml_lt H10.out.2.1.2.1
  have H11 : Hid (Below W2.heap.size W2 w11 ∧ Fld w11 f p ∧ Nb w11 ry xy ∧ Nb w11 rz xz ∧ Nb w11 rsl xsl ∧ Nb w11 rx4 xx4 ∧ Nb w11 rq5 xq5 ∧ True) := ⟨below_via H10.out.1 hb (Nat.le_refl _), H10.out.2.1.below hb, (H10.out.2.2.1).below hb, (H10.out.2.2.2.1).below hb, (H10.out.2.2.2.2.1).below hb, (H10.out.2.2.2.2.2.1).below hb, hr, trivial⟩
  clear hr hb hx H10
  go_wp2_with fail
  refine (Ftwice f _ p xq5 H11.out.2.1 H11.out.2.2.2.2.2.2.1 Lq5.out).mono ?_
  rintro e w12 ⟨ry8, rfl, hr, hb⟩
  obtain ⟨xy8, hx⟩ : ∃ x, fad p xq5 xq5 = x := ⟨_, rfl⟩
  rw [hx] at hr
  have Ey8 : Hid (fad p xq5 xq5 = xy8) := hx
  have Ly8 : Hid (xy8 < p) := by show _ < _; rw [← hx]; exact fad_lt H11.out.2.1.2.1
  have H12 : Hid (Below W2.heap.size W2 w12 ∧ Fld w12 f p ∧ Nb w12 ry xy ∧ Nb w12 rz xz ∧ Nb w12 rsl xsl ∧ Nb w12 rx4 xx4 ∧ Nb w12 ry8 xy8 ∧ True) := ⟨below_via H11.out.1 hb (Nat.le_refl _), H11.out.2.1.below hb, (H11.out.2.2.1).below hb, (H11.out.2.2.2.1).below hb, (H11.out.2.2.2.2.1).below hb, (H11.out.2.2.2.2.2.1).below hb, hr, trivial⟩
  clear hr hb hx H11
  go_wp2_with fail
  refine (Fsquare f _ p xsl H12.out.2.1 H12.out.2.2.2.2.1 Lsl.out).mono ?_
  rintro e w13 ⟨rq6, rfl, hr, hb⟩
  obtain ⟨xq6, hx⟩ : ∃ x, fml p xsl xsl = x := ⟨_, rfl⟩
  rw [hx] at hr
  have Eq6 : Hid (fml p xsl xsl = xq6) := hx
  have Lq6 : Hid (xq6 < p) := by show _ < _; rw [← hx]; exact fml_lt H12.out.2.1.2.1
  have H13 : Hid (Below W2.heap.size W2 w13 ∧ Fld w13 f p ∧ Nb w13 ry xy ∧ Nb w13 rz xz ∧ Nb w13 rsl xsl ∧ Nb w13 rx4 xx4 ∧ Nb w13 ry8 xy8 ∧ Nb w13 rq6 xq6 ∧ True) := ⟨below_via H12.out.1 hb (Nat.le_refl _), H12.out.2.1.below hb, (H12.out.2.2.1).below hb, (H12.out.2.2.2.1).below hb, (H12.out.2.2.2.2.1).below hb, (H12.out.2.2.2.2.2.1).below hb, (H12.out.2.2.2.2.2.2.1).below hb, hr, trivial⟩
  clear hr hb hx H12
  go_wp2_with fail
  refine (Ftwice f _ p xx4 H13.out.2.1 H13.out.2.2.2.2.2.1 Lx4.out).mono ?_
  rintro e w14 ⟨rq7, rfl, hr, hb⟩
  obtain ⟨xq7, hx⟩ : ∃ x, fad p xx4 xx4 = x := ⟨_, rfl⟩
  rw [hx] at hr
  have Eq7 : Hid (fad p xx4 xx4 = xq7) := hx
  have Lq7 : Hid (xq7 < p) := by show _ < _; rw [← hx]; exact fad_lt H13.out.2.1.2.1
  have H14 : Hid (Below W2.heap.size W2 w14 ∧ Fld w14 f p ∧ Nb w14 ry xy ∧ Nb w14 rz xz ∧ Nb w14 rsl xsl ∧ Nb w14 rx4 xx4 ∧ Nb w14 ry8 xy8 ∧ Nb w14 rq6 xq6 ∧ Nb w14 rq7 xq7 ∧ True) := ⟨below_via H13.out.1 hb (Nat.le_refl _), H13.out.2.1.below hb, (H13.out.2.2.1).below hb, (H13.out.2.2.2.1).below hb, (H13.out.2.2.2.2.1).below hb, (H13.out.2.2.2.2.2.1).below hb, (H13.out.2.2.2.2.2.2.1).below hb, (H13.out.2.2.2.2.2.2.2.1).below hb, hr, trivial⟩
  clear hr hb hx H13
  go_wp2_with fail
  refine (Fminus f _ _ p xq6 xq7 H14.out.2.1 H14.out.2.2.2.2.2.2.2.1 H14.out.2.2.2.2.2.2.2.2.1 Lq6.out Lq7.out).mono ?_
  rintro e w15 ⟨rsu, rfl, hr, hb⟩
  obtain ⟨xsu, hx⟩ : ∃ x, fsb p xq6 xq7 = x := ⟨_, rfl⟩
  rw [hx] at hr
  have Esu : Hid (fsb p xq6 xq7 = xsu) := hx
  have Lsu : Hid (xsu < p) := by show _ < _; rw [← hx]; exact fsb_lt H14.out.2.1.2.1
  have H15 : Hid (Below W2.heap.size W2 w15 ∧ Fld w15 f p ∧ Nb w15 ry xy ∧ Nb w15 rz xz ∧ Nb w15 rsl xsl ∧ Nb w15 rx4 xx4 ∧ Nb w15 ry8 xy8 ∧ Nb w15 rsu xsu ∧ True) := ⟨below_via H14.out.1 hb (Nat.le_refl _), H14.out.2.1.below hb, (H14.out.2.2.1).below hb, (H14.out.2.2.2.1).below hb, (H14.out.2.2.2.2.1).below hb, (H14.out.2.2.2.2.2.1).below hb, (H14.out.2.2.2.2.2.2.1).below hb, hr, trivial⟩
  clear hr hb hx H14
  go_wp2_with fail
  refine (Fminus f _ _ p xx4 xsu H15.out.2.1 H15.out.2.2.2.2.2.1 H15.out.2.2.2.2.2.2.2.1 Lx4.out Lsu.out).mono ?_
  rintro e w16 ⟨rq8, rfl, hr, hb⟩
  obtain ⟨xq8, hx⟩ : ∃ x, fsb p xx4 xsu = x := ⟨_, rfl⟩
  rw [hx] at hr
  have Eq8 : Hid (fsb p xx4 xsu = xq8) := hx
  have Lq8 : Hid (xq8 < p) := by show _ < _; rw [← hx]; exact fsb_lt H15.out.2.1.2.1
  have H16 : Hid (Below W2.heap.size W2 w16 ∧ Fld w16 f p ∧ Nb w16 ry xy ∧ Nb w16 rz xz ∧ Nb w16 rsl xsl ∧ Nb w16 ry8 xy8 ∧ Nb w16 rsu xsu ∧ Nb w16 rq8 xq8 ∧ True) := ⟨below_via H15.out.1 hb (Nat.le_refl _), H15.out.2.1.below hb, (H15.out.2.2.1).below hb, (H15.out.2.2.2.1).below hb, (H15.out.2.2.2.2.1).below hb, (H15.out.2.2.2.2.2.2.1).below hb, (H15.out.2.2.2.2.2.2.2.1).below hb, hr, trivial⟩
  clear hr hb hx H15
  go_wp2_with fail
  refine (Ftimes f _ _ p xsl xq8 H16.out.2.1 H16.out.2.2.2.2.1 H16.out.2.2.2.2.2.2.2.1 Lsl.out Lq8.out).mono ?_
  rintro e w17 ⟨rq9, rfl, hr, hb⟩
  obtain ⟨xq9, hx⟩ : ∃ x, fml p xsl xq8 = x := ⟨_, rfl⟩
  rw [hx] at hr
  have Eq9 : Hid (fml p xsl xq8 = xq9) := hx
  have Lq9 : Hid (xq9 < p) := by show _ < _; rw [← hx]; exact fml_lt H16.out.2.1.2.1
  have H17 : Hid (Below W2.heap.size W2 w17 ∧ Fld w17 f p ∧ Nb w17 ry xy ∧ Nb w17 rz xz ∧ Nb w17 ry8 xy8 ∧ Nb w17 rsu xsu ∧ Nb w17 rq9 xq9 ∧ True) := ⟨below_via H16.out.1 hb (Nat.le_refl _), H16.out.2.1.below hb, (H16.out.2.2.1).below hb, (H16.out.2.2.2.1).below hb, (H16.out.2.2.2.2.2.1).below hb, (H16.out.2.2.2.2.2.2.1).below hb, hr, trivial⟩
  clear hr hb hx H16
  go_wp2_with fail
  refine (Fminus f _ _ p xq9 xy8 H17.out.2.1 H17.out.2.2.2.2.2.2.1 H17.out.2.2.2.2.1 Lq9.out Ly8.out).mono ?_
  rintro e w18 ⟨rq10, rfl, hr, hb⟩
  obtain ⟨xq10, hx⟩ : ∃ x, fsb p xq9 xy8 = x := ⟨_, rfl⟩
  rw [hx] at hr
  have Eq10 : Hid (fsb p xq9 xy8 = xq10) := hx
  have Lq10 : Hid (xq10 < p) := by show _ < _; rw [← hx]; exact fsb_lt H17.out.2.1.2.1
  have H18 : Hid (Below W2.heap.size W2 w18 ∧ Fld w18 f p ∧ Nb w18 ry xy ∧ Nb w18 rz xz ∧ Nb w18 rsu xsu ∧ Nb w18 rq10 xq10 ∧ True) := ⟨below_via H17.out.1 hb (Nat.le_refl _), H17.out.2.1.below hb, (H17.out.2.2.1).below hb, (H17.out.2.2.2.1).below hb, (H17.out.2.2.2.2.2.1).below hb, hr, trivial⟩
  clear hr hb hx H17
  go_wp2_with fail
  refine (Ftimes f _ _ p xy xz H18.out.2.1 H18.out.2.2.1 H18.out.2.2.2.1 Ly.out Lz.out).mono ?_
  rintro e w19 ⟨rq11, rfl, hr, hb⟩
  obtain ⟨xq11, hx⟩ : ∃ x, fml p xy xz = x := ⟨_, rfl⟩
  rw [hx] at hr
  have Eq11 : Hid (fml p xy xz = xq11) := hx
  have Lq11 : Hid (xq11 < p) := by show _ < _; rw [← hx]; exact fml_lt H18.out.2.1.2.1
  have H19 : Hid (Below W2.heap.size W2 w19 ∧ Fld w19 f p ∧ Nb w19 rsu xsu ∧ Nb w19 rq10 xq10 ∧ Nb w19 rq11 xq11 ∧ True) := ⟨below_via H18.out.1 hb (Nat.le_refl _), H18.out.2.1.below hb, (H18.out.2.2.2.2.1).below hb, (H18.out.2.2.2.2.2.1).below hb, hr, trivial⟩
  clear hr hb hx H18
  go_wp2_with fail
  refine (Ftwice f _ p xq11 H19.out.2.1 H19.out.2.2.2.2.1 Lq11.out).mono ?_
  rintro e w20 ⟨rq12, rfl, hr, hb⟩
  obtain ⟨xq12, hx⟩ : ∃ x, fad p xq11 xq11 = x := ⟨_, rfl⟩
  rw [hx] at hr
  have Eq12 : Hid (fad p xq11 xq11 = xq12) := hx
  have Lq12 : Hid (xq12 < p) := by show _ < _; rw [← hx]; exact fad_lt H19.out.2.1.2.1
  have H20 : Hid (Below W2.heap.size W2 w20 ∧ Fld w20 f p ∧ Nb w20 rsu xsu ∧ Nb w20 rq10 xq10 ∧ Nb w20 rq12 xq12 ∧ True) := ⟨below_via H19.out.1 hb (Nat.le_refl _), H19.out.2.1.below hb, (H19.out.2.2.1).below hb, (H19.out.2.2.2.1).below hb, hr, trivial⟩
  clear hr hb hx H19
  have hJ2 : J = (xsu, xq10, xq12) := by rw [← HJ.out]; simp only [jdb, Ezz.out, Eyy.out, Eq0.out, Eq1.out, Eq.out, Esl.out, Eq2.out, Eq3.out, Ex4.out, Eq4.out, Eq5.out, Ey8.out, Eq6.out, Eq7.out, Esu.out, Eq8.out, Eq9.out, Eq10.out, Eq11.out, Eq12.out]
  subst hJ2
  have hB := HBk.out w20 H20.out.1
  have d0 := hB.cell 0; have d1 := hB.cell 1; have d2 := hB.cell 2; have g0 := hB.frozen 0; have g1 := hB.frozen 1; have g2 := hB.frozen 2
  obtain ⟨asu, csu, hqsu⟩ := (H20.out.2.2.1).form
  obtain ⟨aq10, cq10, hqq10⟩ := (H20.out.2.2.2.1).form
  obtain ⟨aq12, cq12, hqq12⟩ := (H20.out.2.2.2.2.1).form
  have HF : Hid (Blk 58 w20 (w.heap.size + 1) [.slice none 0 0, .slice none 0 0, .slice none 0 0] ∧ Below w.heap.size w w20 ∧ Nb w20 rsu xsu ∧ Nb w20 rq10 xq10 ∧ Nb w20 rq12 xq12) := ⟨hB, below_via HBw.out H20.out.1 (Nat.le_refl _), H20.out.2.2.1, H20.out.2.2.2.1, H20.out.2.2.2.2.1⟩
  clear hB H20 HBk HBw HJ
  subst hqsu hqq10 hqq12
  simp at d0 d1 d2
  go_wp2
  obtain ⟨hF, hU⟩ := Blk.put3 HF.out.1 (.slice asu (lim xsu).length csu) (.slice aq10 (lim xq10).length cq10) (.slice aq12 (lim xq12).length cq12)
  have hbl := hU.below HF.out.2.1 HF.out.2.1.size (Nat.le_succ _)
  have hnn : ∀ c ∈ [Value.slice none 0 0, Value.slice none 0 0, Value.slice none 0 0], ∀ n, c ≠ .int .u32 n := by intro c hc; simp at hc; subst hc; intro n h; cases h
  exact bodyPost_ret (v := .agg [.slice asu (lim xsu).length csu, .slice aq10 (lim xq10).length cq10, .slice aq12 (lim xq12).length cq12].toArray) (results_blk (b := w.heap.size + 1) (cs := [.slice asu (lim xsu).length csu, .slice aq10 (lim xq10).length cq10, .slice aq12 (lim xq12).length cq12]) rfl rfl hF Try.underlying58 rfl Try.sizeTr) rfl ⟨_, _, _, rfl, HF.out.2.2.1.upd HF.out.1 hnn hU, HF.out.2.2.2.1.upd HF.out.1 hnn hU, HF.out.2.2.2.2.upd HF.out.1 hnn hU, hbl⟩
end Go.Proofs.Ytkdclocjijmgpaa
