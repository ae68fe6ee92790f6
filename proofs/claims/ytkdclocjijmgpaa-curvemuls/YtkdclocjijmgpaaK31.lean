/-
  Curve: the page's examples. (wip/mku33.py)
-/
import Derived.Lib.AppendZerosOnto
import Derived.Test.YtkdclocjijmgpaaK30
namespace Go.Proofs.Ytkdclocjijmgpaa
open Go.RowKit
set_option maxRecDepth 20000
theorem nb_len {w : World} {v : Value} {x : Nat} {n : Nat} (h : Nb w v x) (hn : (lim x).length = n) : ∃ a c, v = .slice a n c := by obtain ⟨a, c, h1⟩ := h.form; exact ⟨a, c, by rw [h1, hn]⟩
theorem Base1 {w : World} : Calls Try.prog 20 #[.int .i64 1] w fun e w' => ∃ a k b l, e = .returned (.agg #[.slice a 8 k, .slice b 8 l]) ∧ Nb w' (.slice a 8 k) c256.gx ∧ Nb w' (.slice b 8 l) c256.gy ∧ Below w.heap.size w w' := by
  refine (Base_any 1).mono ?_
  rintro e w' ⟨r, q, rfl, hr, hq, hb⟩
  have hr : Nb w' r c256.gx := hr
  have hq : Nb w' q c256.gy := hq
  obtain ⟨a, k, rfl⟩ := nb_len (n := 8) hr (by rw [lim256gx]; rfl)
  obtain ⟨b, l, rfl⟩ := nb_len (n := 8) hq (by rw [lim256gy]; rfl)
  exact ⟨a, k, b, l, rfl, hr, hq, hb⟩
theorem Base2 {w : World} : Calls Try.prog 20 #[.int .i64 2] w fun e w' => ∃ a k b l, e = .returned (.agg #[.slice a 12 k, .slice b 12 l]) ∧ Nb w' (.slice a 12 k) c384.gx ∧ Nb w' (.slice b 12 l) c384.gy ∧ Below w.heap.size w w' := by
  refine (Base_any 2).mono ?_
  rintro e w' ⟨r, q, rfl, hr, hq, hb⟩
  have hr : Nb w' r c384.gx := hr
  have hq : Nb w' q c384.gy := hq
  obtain ⟨a, k, rfl⟩ := nb_len (n := 12) hr (by rw [lim384gx]; rfl)
  obtain ⟨b, l, rfl⟩ := nb_len (n := 12) hq (by rw [lim384gy]; rfl)
  exact ⟨a, k, b, l, rfl, hr, hq, hb⟩
theorem Mul1 {w : World} (v x y : Value) (hv : Sl .u32 w v [2]) (hx : Nb w x c256.gx) (hy : Nb w y c256.gy) : Calls Try.prog 15 #[.int .i64 1, v, .agg #[x, y]] w fun e w' => ∃ a k b l, e = .returned (.tuple #[.agg #[.slice a 8 k, .slice b 8 l], .int .i64 0]) ∧ Nb w' (.slice a 8 k) exX ∧ Nb w' (.slice b 8 l) exY ∧ Below w.heap.size w w' := by
  refine (Mul_ok 1 c256 rfl v x y [2] (lim c256.gx) (lim c256.gy) hv hx hy (by intro x hx; simp at hx; subst hx; unfold U32; omega) (lim_u32 _) (lim_u32 _) (by decide) (by rw [lim256gx]; decide) (by rw [lim256gy]; decide) ex_on (fun _ => by rw [exT_eq]; exact exT_gcd)).mono ?_
  rintro e w' ⟨r0, r1, RX, RY, rfl, hj, n0, n1, hb⟩
  rw [exT_eq] at hj
  obtain ⟨rfl, rfl⟩ := exj hj
  obtain ⟨a, k, rfl⟩ := nb_len (n := 8) n0 (by rw [exX_lim]; rfl)
  obtain ⟨b, l, rfl⟩ := nb_len (n := 8) n1 (by rw [exY_lim]; rfl)
  exact ⟨a, k, b, l, rfl, n0, n1, hb⟩
theorem gx_toNat (x : Nat) : (val (lim x)).toNat = x := by rw [val_lim]; omega
theorem Neg2 {w : World} (x y : Value) (hx : Nb w x c384.gx) (hy : Nb w y c384.gy) : Calls Try.prog 10 #[.int .i64 2, .agg #[x, y]] w fun e w' => ∃ a k b l, e = .returned (.tuple #[.agg #[.slice a 12 k, .slice b 12 l], .int .i64 0]) ∧ Nb w' (.slice a 12 k) c384.gx ∧ Nb w' (.slice b 12 l) exN ∧ Below w.heap.size w w' := by
  refine (Neg_ok 2 c384 rfl x y (lim c384.gx) (lim c384.gy) hx hy (lim_u32 _) (lim_u32 _) (by rw [lim384gx]; decide) (by rw [lim384gy]; decide) ex_on2).mono ?_
  rintro e w' ⟨r0, r1, rfl, n0, n1, hb⟩
  rw [gx_toNat] at n0 n1
  rw [exN_eq] at n1
  obtain ⟨a, k, rfl⟩ := nb_len (n := 12) n0 (by rw [lim384gx]; rfl)
  obtain ⟨b, l, rfl⟩ := nb_len (n := 12) n1 (by rw [exN_lim]; rfl)
  exact ⟨a, k, b, l, rfl, n0, n1, hb⟩
theorem Add2 {w : World} (x y z t : Value) (hx : Nb w x c384.gx) (hy : Nb w y exN) (hz : Nb w z c384.gx) (ht : Nb w t c384.gy) : Calls Try.prog 8 #[.int .i64 2, .agg #[x, y], .agg #[z, t]] w fun e w' => ∃ a k b l, e = .returned (.tuple #[.agg #[.slice a 0 k, .slice b 0 l], .int .i64 0]) ∧ Below w.heap.size w w' := by
  refine (Add_ok 2 c384 rfl x y z t (lim c384.gx) (lim exN) (lim c384.gx) (lim c384.gy) hx hy (lim_u32 _) (lim_u32 _) (by rw [lim384gx]; decide) (by rw [exN_lim]; decide) ex_on4 hz ht (lim_u32 _) (lim_u32 _) (by rw [lim384gx]; decide) (by rw [lim384gy]; decide) ex_on2 (fun h => by rw [exS] at h; exact absurd rfl h)).mono ?_
  rintro e w' ⟨r0, r1, RX, RY, rfl, hj, n0, n1, hb⟩
  rw [exS] at hj
  obtain ⟨rfl, rfl⟩ := exj0 hj
  obtain ⟨a, k, rfl⟩ := nb_len (n := 0) n0 (by unfold lim; rfl)
  obtain ⟨b, l, rfl⟩ := nb_len (n := 0) n1 (by unfold lim; rfl)
  exact ⟨a, k, b, l, rfl, hb⟩
theorem ap64 (w : World) (ty : TypeId) : ∃ cp cs, (Builtin.append_ #[48, 3] ty #[.slice (some ⟨w.heap.size, 0, none⟩) 1 1, .int .i64 64]).run Try.prog (w.alloc (.cells #[.int .u8 2] 5)) = .ok (.slice (some ⟨w.heap.size + 1, 0, none⟩) 65 cp) ((w.alloc (.cells #[.int .u8 2] 5)).drew.alloc (.cells cs 5)) ∧ cs[0]? = some (.int .u8 2) := by
  obtain ⟨i, hi, he⟩ := Option.map_eq_some_iff.1 Try.info8
  simp only [Prod.mk.injEq] at he
  obtain ⟨hz, hs, hby⟩ := he
  have hold : (Builtin.firstCells i.size 1 (.slice (some ⟨w.heap.size, 0, none⟩) 1 1)).run Try.prog (w.alloc (.cells #[.int .u8 2] 5)).drew = .ok [Value.int .u8 2].toArray (w.alloc (.cells #[.int .u8 2] 5)).drew :=
    run_firstCells_some _ i.size 1 ⟨w.heap.size, 0, none⟩ 1 1 _ (by rw [hs]; rfl) (fun j u hj => by
      have hj' : j < 1 := (List.getElem?_eq_some_iff.1 hj).1
      obtain rfl : j = 0 := by omega
      simp at hj
      subst hj
      exact (Blk.new 5 w [Value.int .u8 2]).cell 0)
  have h := Lib.run_append_grow_zeros (P := Try.prog) (w.alloc (.cells #[.int .u8 2] 5)) 48 3 ty 5 i (.int .u8 0) .i64 .i64 Try.und8 (by kernel_rfl) hi hz (some ⟨w.heap.size, 0, none⟩) 1 1 [.int .u8 2] hold 64 (by decide) (by omega) (by decide) (by decide) (by rw [hby]; decide) (by rw [hby]; decide)
  rw [World.size_alloc] at h
  exact ⟨_, _, h, by simp [Array.getElem?_append]⟩
theorem par_cell {w : World} {o : Obj} {cs : Array Value} (hcs : cs[0]? = some (.int .u8 2)) : (((w.alloc o).alloc (.cells cs 5)).drew).cell? ⟨w.heap.size + 1, 0, none⟩ = some (.int .u8 2) := by
  have h := (Blk.new 5 (w.alloc o) cs.toList).cell 0
  rw [World.size_alloc, Array.toArray_toList] at h
  exact h.trans ((Array.getElem?_toList).trans hcs)
theorem Size2 {w : World} : Calls Try.prog 22 #[.int .i64 2] w fun e w' => e = .returned (.int .i64 48) ∧ Below w.heap.size w w' := Size_any 2
theorem On1 {w : World} (x y : Value) (hx : Nb w x exX) (hy : Nb w y exY) : Calls Try.prog 23 #[.int .i64 1, .agg #[x, y]] w fun e w' => e = .returned (.bool true) ∧ Below w.heap.size w w' := by
  have h := On_any 1 x y (lim exX) (lim exY) hx hy (lim_u32 _) (lim_u32 _) (by rw [exX_lim]; decide) (by rw [exY_lim]; decide)
  rw [ex_on3] at h
  exact h
theorem exX_cells {w : World} {a : Option Addr} {k : Nat} (h : Nb w (.slice a 8 k) exX) : ∃ b off, a = some ⟨b, off, none⟩ ∧ w.cell? ⟨b, off, none⟩ = some (.int .u32 1197906296) ∧ w.cell? ⟨b, off + 7, none⟩ = some (.int .u32 2096266008) := by
  obtain ⟨a', c', hv, _, hx⟩ := h
  rw [exX_lim] at hv hx
  simp only [Value.slice.injEq] at hv
  obtain ⟨rfl, _, rfl⟩ := hv
  rcases hx with hx | ⟨b, off, rfl, _, hr⟩
  · exact absurd hx (by simp)
  · exact ⟨b, off, rfl, hr 0 (by decide), hr 7 (by decide)⟩

structure InvL (wc : World) (PN : Value) (L : Array Bool) (s5 s6 s20 s21 s22 s23 s24 s25 : Value) (W : World) : Prop where
  bel : Below wc.heap.size wc W
  k0 : Up L 0 → s21 = PN
  k1 : Up L 1 → ∃ a k b l, s22 = .agg #[.slice a 12 k, .slice b 12 l] ∧ Nb W (.slice a 12 k) c384.gx ∧ Nb W (.slice b 12 l) c384.gy
  k2 : Up L 2 → ∃ a k b l, s23 = .tuple #[.agg #[.slice a 0 k, .slice b 0 l], .int .i64 0]
  k3 : Up L 3 → ∃ a k b l, s20 = .tuple #[.agg #[.slice a 0 k, .slice b 0 l], .int .i64 0]
  k4 : Up L 4 → ∃ a k b l, s24 = .agg #[.slice a 0 k, .slice b 0 l]
  k5 : Up L 5 → s25 = .int .i64 0
  k6 : Up L 6 → ∃ b, s5 = .pointer (some ⟨b, 0, none⟩) ∧ wc.heap.size ≤ b ∧ (¬ Up L 7 → Blk 24 W b [.slice none 0 0, .slice none 0 0]) ∧ (Up L 7 → ∃ x k y l, Blk 24 W b [.slice x 0 k, .slice y 0 l])
  k7 : Up L 7 → Up L 6
  k8 : Up L 8 → s6 = .int .i64 0
theorem InvL.to {wc : World} {PN : Value} {L : Array Bool} {s5 s6 s20 s21 s22 s23 s24 s25 : Value} {W W' : World} (i : InvL wc PN L s5 s6 s20 s21 s22 s23 s24 s25 W) (hb : Below W.heap.size W W') : InvL wc PN L s5 s6 s20 s21 s22 s23 s24 s25 W' where
  bel := below_via i.bel hb (Nat.le_refl _)
  k0 := i.k0
  k1 := fun u => by obtain ⟨a, k, b, l, e, h1, h2⟩ := i.k1 u; exact ⟨a, k, b, l, e, h1.below hb, h2.below hb⟩
  k2 := i.k2
  k3 := i.k3
  k4 := i.k4
  k5 := i.k5
  k6 := fun u => by obtain ⟨b, e, hl, h1, h2⟩ := i.k6 u; exact ⟨b, e, hl, fun z => below_blk hb (h1 z).lt (h1 z), fun z => by obtain ⟨x, k, y, l, hh⟩ := h2 z; exact ⟨x, k, y, l, below_blk hb hh.lt hh⟩⟩
  k7 := i.k7
  k8 := i.k8
set_option maxHeartbeats 8000000 in
theorem live09_any {w : World} : Calls Try.prog 7 #[] w fun e w' => e = .returned (.bool true) ∧ Below w.heap.size w w' := by
  go_enter Try.func7, Try.ntmps7
  have H0 : Hid (Sl .u32 (w.alloc (.cells #[.int .u32 2] 45)) (.slice (some ⟨w.heap.size, 0, none⟩) 1 1) [2]) := Arr.sl (S := [2]) (arr_nw rfl rfl)
  go_wp2_with fail
  refine (Base1 (w := _)).mono ?_
  rintro e w1 ⟨a1, k1, b1, l1, rfl, hx, hy, hb⟩
  have H1 : Hid (Sl .u32 w1 (.slice (some ⟨w.heap.size, 0, none⟩) 1 1) [2] ∧ Nb w1 (.slice a1 8 k1) c256.gx ∧ Nb w1 (.slice b1 8 l1) c256.gy ∧ Below w.heap.size w w1) := ⟨below_sl hb H0.out, hx, hy, below_via (al1 _) hb (Nat.le_refl _)⟩
  clear hx hy hb H0
  go_wp2_with fail
  refine (Mul1 _ _ _ H1.out.1 H1.out.2.1 H1.out.2.2.1).mono ?_
  rintro e w2 ⟨a2, k2, b2, l2, rfl, hx, hy, hb⟩
  have H2 : Hid (Nb w2 (.slice a2 8 k2) exX ∧ Nb w2 (.slice b2 8 l2) exY ∧ Below w.heap.size w w2) := ⟨hx, hy, below_via H1.out.2.2.2 hb (Nat.le_refl _)⟩
  clear hx hy hb H1
  go_upto_region 2 with (fail)
  refine wp_gen (fun W => Blk 24 W w2.heap.size [.slice a2 8 k2, .slice b2 8 l2] ∧ Below w2.heap.size w2 W) ⟨Blk.new _ _ _, al1 _⟩ ?_
  rintro W3 ⟨hB, hb⟩
  have H3 : Hid (Nb W3 (.slice a2 8 k2) exX ∧ Nb W3 (.slice b2 8 l2) exY ∧ Below w.heap.size w W3 ∧ Blk 24 W3 w2.heap.size [.slice a2 8 k2, .slice b2 8 l2]) := ⟨H2.out.1.below hb, H2.out.2.1.below hb, below_via H2.out.2.2 hb (Nat.le_refl _), hB⟩
  clear hB hb H2
  go_wp2_with fail
  refine (Base2 (w := _)).mono ?_
  rintro e w4 ⟨a4, k4, b4, l4, rfl, hx, hy, hb⟩
  have H4 : Hid (Nb w4 (.slice a4 12 k4) c384.gx ∧ Nb w4 (.slice b4 12 l4) c384.gy ∧ Below W3.heap.size W3 w4) := ⟨hx, hy, hb⟩
  clear hx hy hb
  go_wp2_with fail
  refine (Neg2 _ _ H4.out.1 H4.out.2.1).mono ?_
  rintro e w5 ⟨a5, k5, b5, l5, rfl, hx, hy, hb⟩
  have H5 : Hid (Nb w5 (.slice a5 12 k5) c384.gx ∧ Nb w5 (.slice b5 12 l5) exN ∧ Below W3.heap.size W3 w5) := ⟨hx, hy, below_via H4.out.2.2 hb (Nat.le_refl _)⟩
  clear hx hy hb H4
  go_upto_region 3 with (fail)
  refine wp_gen (fun W => Blk 24 W w5.heap.size [.slice a5 12 k5, .slice b5 12 l5] ∧ Below w5.heap.size w5 W) ⟨Blk.new _ _ _, al1 _⟩ ?_
  rintro W6 ⟨hB, hb⟩
  have H6 : Hid (Nb W6 (.slice a5 12 k5) c384.gx ∧ Nb W6 (.slice b5 12 l5) exN ∧ Below W3.heap.size W3 W6 ∧ Blk 24 W6 w5.heap.size [.slice a5 12 k5, .slice b5 12 l5]) := ⟨H5.out.1.below hb, H5.out.2.1.below hb, below_via H5.out.2.2 hb (Nat.le_refl _), hB⟩
  clear hB hb H5
  go_cut [5, 6] from 9 (fun s5 s6 wd => ∃ b a k c l, s5 = .pointer (some ⟨b, 0, none⟩) ∧ s6 = .int .i64 0 ∧ Hid (Below W6.heap.size W6 wd ∧ Blk 24 wd b [.slice a 0 k, .slice c 0 l]))
  case first =>
    have HBk : Hid (∀ W, Below W6.heap.size W6 W → Blk 24 W w5.heap.size [.slice a5 12 k5, .slice b5 12 l5]) := fun W h => below_blk h H6.out.2.2.2.lt H6.out.2.2.2
    have HNb : Hid (∀ W, Below W6.heap.size W6 W → Nb W (.slice a5 12 k5) c384.gx ∧ Nb W (.slice b5 12 l5) exN) := fun W h => ⟨H6.out.1.below h, H6.out.2.1.below h⟩
    refine wp_region_inv (fun L a W => ∃ s5 s6 s20 s21 s22 s23 s24 s25, L.size = 9 ∧ a = { tmps := List.toArray (.bool false :: .pointer (some ⟨w2.heap.size, 0, none⟩) :: .int .i64 0 :: .pointer (some ⟨w5.heap.size, 0, none⟩) :: .int .i64 0 :: s5 :: s6 :: undef :: undef :: .tuple #[.agg #[.slice a2 8 k2, .slice b2 8 l2], .int .i64 0] :: .slice (some ⟨w.heap.size, 0, none⟩) 1 1 :: .agg #[.slice a1 8 k1, .slice b1 8 l1] :: .tuple #[.agg #[.slice a2 8 k2, .slice b2 8 l2], .int .i64 0] :: .agg #[.slice a2 8 k2, .slice b2 8 l2] :: .int .i64 0 :: .tuple #[(.agg #[.slice a5 12 k5, .slice b5 12 l5]), .int .i64 0] :: .agg #[.slice a4 12 k4, .slice b4 12 l4] :: .tuple #[(.agg #[.slice a5 12 k5, .slice b5 12 l5]), .int .i64 0] :: (.agg #[.slice a5 12 k5, .slice b5 12 l5]) :: .int .i64 0 :: s20 :: s21 :: s22 :: s23 :: s24 :: s25 :: undef :: undef :: undef :: undef :: undef :: undef :: undef :: undef :: undef :: undef :: undef :: undef :: undef :: undef :: undef :: undef :: undef :: undef :: undef :: undef :: undef :: undef :: undef :: undef :: undef :: undef :: undef :: undef :: undef :: undef :: undef :: undef :: undef :: undef :: undef :: undef :: undef :: undef :: undef :: undef :: undef :: undef :: undef :: undef :: undef :: undef :: undef :: undef :: undef :: undef :: undef :: undef :: undef :: undef :: undef :: undef :: undef :: undef :: []), defers := [] } ∧ InvL W6 (.agg #[.slice a5 12 k5, .slice b5 12 l5]) L s5 s6 s20 s21 s22 s23 s24 s25 W) rfl (by kernel_rfl) ?_ ?_ ?_
    · refine ⟨undef, undef, undef, undef, undef, undef, undef, undef, by simp, rfl, ?_⟩
      exact { bel := Below.drew (Below.refl _ _), k0 := fun u => absurd u not_up_new, k1 := fun u => absurd u not_up_new, k2 := fun u => absurd u not_up_new, k3 := fun u => absurd u not_up_new, k4 := fun u => absurd u not_up_new, k5 := fun u => absurd u not_up_new, k6 := fun u => absurd u not_up_new, k7 := fun u => absurd u not_up_new, k8 := fun u => absurd u not_up_new }
    · rintro L a W hup ⟨s5, s6, s20, s21, s22, s23, s24, s25, hsz, rfl, hI⟩
      obtain ⟨b, rfl, _, _, hb⟩ := hI.k6 (hup 6 (by decide))
      obtain ⟨x, k, y, l, hB⟩ := hb (hup 7 (by decide))
      obtain rfl := hI.k8 (hup 8 (by decide))
      have HZ : Hid (Below W6.heap.size W6 W ∧ Blk 24 W b [.slice x 0 k, .slice y 0 l]) := ⟨hI.bel, hB⟩
      clear hI hb hB
      go_wp2
      go_meet
      case rel => exact ⟨b, x, k, y, l, rfl, rfl, HZ.out⟩
    · rintro i L a W hi hno hdep ⟨s5, s6, s20, s21, s22, s23, s24, s25, hsz, rfl, hI⟩
      have hlt : ∀ k, k < 9 → k < L.size := fun k hk => by omega
      replace hi : i < 9 := hi
      obtain rfl | rfl | rfl | rfl | rfl | rfl | rfl | rfl | rfl : i = 0 ∨ i = 1 ∨ i = 2 ∨ i = 3 ∨ i = 4 ∨ i = 5 ∨ i = 6 ∨ i = 7 ∨ i = 8 := by omega
      · have HI : Hid (InvL W6 (.agg #[.slice a5 12 k5, .slice b5 12 l5]) L s5 s6 s20 s21 s22 s23 s24 s25 W) := hI
        clear hI
        refine wpOp_step rfl (fun K hK => ?_)
        rw [if_pos (by rfl)]
        refine wp_load_mid _ _ rfl w5.heap.size 0 rfl [.slice a5 12 k5, .slice b5 12 l5] _ (HBk.out W HI.out.bel).whole Try.underlying24 rfl (by kernel_rfl) ?_
        replace hI := HI.out
        simp only [Act.put, List.setIfInBounds_toArray]
        exact hK _ _ ⟨s5, s6, s20, (.agg #[.slice a5 12 k5, .slice b5 12 l5]), s22, s23, s24, s25, by simp [hsz], rfl, { bel := hI.bel, k0 := fun _ => rfl, k1 := fun u => hI.k1 (up_set u (by decide)), k2 := fun u => hI.k2 (up_set u (by decide)), k3 := fun u => hI.k3 (up_set u (by decide)), k4 := fun u => hI.k4 (up_set u (by decide)), k5 := fun u => hI.k5 (up_set u (by decide)), k6 := fun u => by obtain ⟨b, e, hl, h1, h2⟩ := hI.k6 (up_set u (by decide)); exact ⟨b, e, hl, fun z => h1 (fun y => z (up_mono2 y (by decide))), fun z => h2 (up_set z (by decide))⟩, k7 := fun u => up_mono2 (hI.k7 (up_set u (by decide))) (by decide), k8 := fun u => hI.k8 (up_set u (by decide)) }⟩
      · have HI : Hid (InvL W6 (.agg #[.slice a5 12 k5, .slice b5 12 l5]) L s5 s6 s20 s21 s22 s23 s24 s25 W) := hI
        clear hI
        refine wpOp_step rfl (fun K hK => ?_)
        go_simp
        refine (Base2 (w := W)).mono ?_
        rintro e W' ⟨xa, xk, xb, xl, rfl, h0, h1, hb⟩
        replace hI := HI.out.to hb
        simp only []
        go_simp
        exact hK _ _ ⟨s5, s6, s20, s21, .agg #[.slice xa 12 xk, .slice xb 12 xl], s23, s24, s25, by simp [hsz], rfl, { bel := hI.bel, k0 := fun u => hI.k0 (up_set u (by decide)), k1 := fun _ => ⟨_, _, _, _, rfl, h0, h1⟩, k2 := fun u => hI.k2 (up_set u (by decide)), k3 := fun u => hI.k3 (up_set u (by decide)), k4 := fun u => hI.k4 (up_set u (by decide)), k5 := fun u => hI.k5 (up_set u (by decide)), k6 := fun u => by obtain ⟨b, e, hl, h1, h2⟩ := hI.k6 (up_set u (by decide)); exact ⟨b, e, hl, fun z => h1 (fun y => z (up_mono2 y (by decide))), fun z => h2 (up_set z (by decide))⟩, k7 := fun u => up_mono2 (hI.k7 (up_set u (by decide))) (by decide), k8 := fun u => hI.k8 (up_set u (by decide)) }⟩
      · have HI : Hid (InvL W6 (.agg #[.slice a5 12 k5, .slice b5 12 l5]) L s5 s6 s20 s21 s22 s23 s24 s25 W) := hI
        clear hI
        obtain rfl := HI.out.k0 (hdep 0 (by decide +kernel))
        obtain ⟨xa, xk, xb, xl, rfl, h0, h1⟩ := HI.out.k1 (hdep 1 (by decide +kernel))
        have HN : Hid (Nb W (.slice xa 12 xk) c384.gx ∧ Nb W (.slice xb 12 xl) c384.gy) := ⟨h0, h1⟩
        clear h0 h1
        refine wpOp_step rfl (fun K hK => ?_)
        go_simp
        refine (Add2 _ _ _ _ (HNb.out W HI.out.bel).1 (HNb.out W HI.out.bel).2 HN.out.1 HN.out.2).mono ?_
        rintro e W' ⟨ya, yk, yb, yl, rfl, hb⟩
        replace hI := HI.out.to hb
        simp only []
        go_simp
        exact hK _ _ ⟨s5, s6, s20, (.agg #[.slice a5 12 k5, .slice b5 12 l5]), .agg #[.slice xa 12 xk, .slice xb 12 xl], .tuple #[.agg #[.slice ya 0 yk, .slice yb 0 yl], .int .i64 0], s24, s25, by simp [hsz], rfl, { bel := hI.bel, k0 := fun u => hI.k0 (up_set u (by decide)), k1 := fun u => hI.k1 (up_set u (by decide)), k2 := fun _ => ⟨_, _, _, _, rfl⟩, k3 := fun u => hI.k3 (up_set u (by decide)), k4 := fun u => hI.k4 (up_set u (by decide)), k5 := fun u => hI.k5 (up_set u (by decide)), k6 := fun u => by obtain ⟨b, e, hl, h1, h2⟩ := hI.k6 (up_set u (by decide)); exact ⟨b, e, hl, fun z => h1 (fun y => z (up_mono2 y (by decide))), fun z => h2 (up_set z (by decide))⟩, k7 := fun u => up_mono2 (hI.k7 (up_set u (by decide))) (by decide), k8 := fun u => hI.k8 (up_set u (by decide)) }⟩
      · have HI : Hid (InvL W6 (.agg #[.slice a5 12 k5, .slice b5 12 l5]) L s5 s6 s20 s21 s22 s23 s24 s25 W) := hI
        clear hI
        obtain ⟨ya, yk, yb, yl, rfl⟩ := HI.out.k2 (hdep 2 (by decide +kernel))
        refine wpOp_step rfl (fun K hK => ?_)
        go_simp
        replace hI := HI.out
        exact hK _ _ ⟨s5, s6, .tuple #[.agg #[.slice ya 0 yk, .slice yb 0 yl], .int .i64 0], s21, s22, .tuple #[.agg #[.slice ya 0 yk, .slice yb 0 yl], .int .i64 0], s24, s25, by simp [hsz], rfl, { bel := hI.bel, k0 := fun u => hI.k0 (up_set u (by decide)), k1 := fun u => hI.k1 (up_set u (by decide)), k2 := fun u => hI.k2 (up_set u (by decide)), k3 := fun _ => ⟨_, _, _, _, rfl⟩, k4 := fun u => hI.k4 (up_set u (by decide)), k5 := fun u => hI.k5 (up_set u (by decide)), k6 := fun u => by obtain ⟨b, e, hl, h1, h2⟩ := hI.k6 (up_set u (by decide)); exact ⟨b, e, hl, fun z => h1 (fun y => z (up_mono2 y (by decide))), fun z => h2 (up_set z (by decide))⟩, k7 := fun u => up_mono2 (hI.k7 (up_set u (by decide))) (by decide), k8 := fun u => hI.k8 (up_set u (by decide)) }⟩
      · have HI : Hid (InvL W6 (.agg #[.slice a5 12 k5, .slice b5 12 l5]) L s5 s6 s20 s21 s22 s23 s24 s25 W) := hI
        clear hI
        obtain ⟨ya, yk, yb, yl, rfl⟩ := HI.out.k3 (hdep 3 (by decide +kernel))
        refine wpOp_step rfl (fun K hK => ?_)
        go_simp
        replace hI := HI.out
        exact hK _ _ ⟨s5, s6, .tuple #[.agg #[.slice ya 0 yk, .slice yb 0 yl], .int .i64 0], s21, s22, s23, .agg #[.slice ya 0 yk, .slice yb 0 yl], s25, by simp [hsz], rfl, { bel := hI.bel, k0 := fun u => hI.k0 (up_set u (by decide)), k1 := fun u => hI.k1 (up_set u (by decide)), k2 := fun u => hI.k2 (up_set u (by decide)), k3 := fun u => hI.k3 (up_set u (by decide)), k4 := fun _ => ⟨_, _, _, _, rfl⟩, k5 := fun u => hI.k5 (up_set u (by decide)), k6 := fun u => by obtain ⟨b, e, hl, h1, h2⟩ := hI.k6 (up_set u (by decide)); exact ⟨b, e, hl, fun z => h1 (fun y => z (up_mono2 y (by decide))), fun z => h2 (up_set z (by decide))⟩, k7 := fun u => up_mono2 (hI.k7 (up_set u (by decide))) (by decide), k8 := fun u => hI.k8 (up_set u (by decide)) }⟩
      · have HI : Hid (InvL W6 (.agg #[.slice a5 12 k5, .slice b5 12 l5]) L s5 s6 s20 s21 s22 s23 s24 s25 W) := hI
        clear hI
        obtain ⟨ya, yk, yb, yl, rfl⟩ := HI.out.k3 (hdep 3 (by decide +kernel))
        refine wpOp_step rfl (fun K hK => ?_)
        go_simp
        replace hI := HI.out
        exact hK _ _ ⟨s5, s6, .tuple #[.agg #[.slice ya 0 yk, .slice yb 0 yl], .int .i64 0], s21, s22, s23, s24, .int .i64 0, by simp [hsz], rfl, { bel := hI.bel, k0 := fun u => hI.k0 (up_set u (by decide)), k1 := fun u => hI.k1 (up_set u (by decide)), k2 := fun u => hI.k2 (up_set u (by decide)), k3 := fun u => hI.k3 (up_set u (by decide)), k4 := fun u => hI.k4 (up_set u (by decide)), k5 := fun _ => rfl, k6 := fun u => by obtain ⟨b, e, hl, h1, h2⟩ := hI.k6 (up_set u (by decide)); exact ⟨b, e, hl, fun z => h1 (fun y => z (up_mono2 y (by decide))), fun z => h2 (up_set z (by decide))⟩, k7 := fun u => up_mono2 (hI.k7 (up_set u (by decide))) (by decide), k8 := fun u => hI.k8 (up_set u (by decide)) }⟩
      · have HI : Hid (InvL W6 (.agg #[.slice a5 12 k5, .slice b5 12 l5]) L s5 s6 s20 s21 s22 s23 s24 s25 W) := hI
        clear hI
        refine wpOp_step rfl (fun K hK => ?_)
        go_simp
        replace hI := HI.out.to (al1 (w := W) (.cells [.slice none 0 0, .slice none 0 0].toArray 24))
        exact hK _ _ ⟨.pointer (some ⟨W.heap.size, 0, none⟩), s6, s20, s21, s22, s23, s24, s25, by simp [hsz], rfl, { bel := hI.bel, k0 := fun u => hI.k0 (up_set u (by decide)), k1 := fun u => hI.k1 (up_set u (by decide)), k2 := fun u => hI.k2 (up_set u (by decide)), k3 := fun u => hI.k3 (up_set u (by decide)), k4 := fun u => hI.k4 (up_set u (by decide)), k5 := fun u => hI.k5 (up_set u (by decide)), k6 := fun _ => ⟨W.heap.size, rfl, HI.out.bel.size, fun _ => Blk.new _ W [.slice none 0 0, .slice none 0 0], fun u => absurd (HI.out.k7 (up_set u (by decide))) hno⟩, k7 := fun _ => by unfold Up; simp [hlt], k8 := fun u => hI.k8 (up_set u (by decide)) }⟩
      · have HI : Hid (InvL W6 (.agg #[.slice a5 12 k5, .slice b5 12 l5]) L s5 s6 s20 s21 s22 s23 s24 s25 W) := hI
        clear hI
        obtain ⟨b, rfl, gb, hz, _⟩ := HI.out.k6 (hdep 6 (by decide +kernel))
        obtain ⟨ya, yk, yb, yl, rfl⟩ := HI.out.k4 (hdep 4 (by decide +kernel))
        have HB : Hid (Blk 24 W b [.slice none 0 0, .slice none 0 0] ∧ W6.heap.size ≤ b) := ⟨hz hno, gb⟩
        clear hz gb
        refine wpOp_step rfl (fun K hK => ?_)
        rw [if_pos (by rfl)]
        refine wp_store_mid _ _ _ rfl b 0 #[.slice ya 0 yk, .slice yb 0 yl] rfl rfl (HB.out.1.there 0 _ (by simp)) (by kernel_rfl) (sl2_one _ _ _ _ _ _) ?_
        have hU : Upd W (W.setCells b 0 [.slice ya 0 yk, .slice yb 0 yl]) b := Upd.setCells _ 0 W
        have hF := HB.out.1.fill [.slice ya 0 yk, .slice yb 0 yl] rfl
        have hI := HI.out
        simp only [Act.put, List.setIfInBounds_toArray]
        exact hK _ _ ⟨.pointer (some ⟨b, 0, none⟩), s6, s20, s21, s22, s23, .agg #[.slice ya 0 yk, .slice yb 0 yl], s25, by simp [hsz], rfl, { bel := hU.below hI.bel hI.bel.size HB.out.2, k0 := fun u => hI.k0 (up_set u (by decide)), k1 := fun u => by obtain ⟨a, k, b, l, e, h1, h2⟩ := hI.k1 (up_set u (by decide)); exact ⟨a, k, b, l, e, h1.upd HB.out.1 noInts hU, h2.upd HB.out.1 noInts hU⟩, k2 := fun u => hI.k2 (up_set u (by decide)), k3 := fun u => hI.k3 (up_set u (by decide)), k4 := fun u => hI.k4 (up_set u (by decide)), k5 := fun u => hI.k5 (up_set u (by decide)), k6 := fun _ => ⟨b, rfl, HB.out.2, fun z => absurd (by unfold Up; simp [hlt]) z, fun _ => ⟨_, _, _, _, hF⟩⟩, k7 := fun _ => up_mono2 (hdep 6 (by decide +kernel)) (by decide), k8 := fun u => hI.k8 (up_set u (by decide)) }⟩
      · have HI : Hid (InvL W6 (.agg #[.slice a5 12 k5, .slice b5 12 l5]) L s5 s6 s20 s21 s22 s23 s24 s25 W) := hI
        clear hI
        obtain rfl := HI.out.k5 (hdep 5 (by decide +kernel))
        refine wpOp_step rfl (fun K hK => ?_)
        go_simp
        replace hI := HI.out
        exact hK _ _ ⟨s5, .int .i64 0, s20, s21, s22, s23, s24, .int .i64 0, by simp [hsz], rfl, { bel := hI.bel, k0 := fun u => hI.k0 (up_set u (by decide)), k1 := fun u => hI.k1 (up_set u (by decide)), k2 := fun u => hI.k2 (up_set u (by decide)), k3 := fun u => hI.k3 (up_set u (by decide)), k4 := fun u => hI.k4 (up_set u (by decide)), k5 := fun u => hI.k5 (up_set u (by decide)), k6 := fun u => by obtain ⟨b, e, hl, h1, h2⟩ := hI.k6 (up_set u (by decide)); exact ⟨b, e, hl, fun z => h1 (fun y => z (up_mono2 y (by decide))), fun z => h2 (up_set z (by decide))⟩, k7 := fun u => up_mono2 (hI.k7 (up_set u (by decide))) (by decide), k8 := fun _ => rfl }⟩
  obtain ⟨bb, xa, xk, ya, yk, rfl, rfl, HC⟩ := hcut
  have H7 : Hid (Nb wc (.slice a2 8 k2) exX ∧ Nb wc (.slice b2 8 l2) exY ∧ Below w.heap.size w wc ∧ Blk 24 wc w2.heap.size [.slice a2 8 k2, .slice b2 8 l2] ∧ Blk 24 wc bb [.slice xa 0 xk, .slice ya 0 yk]) := by
    have h1 : Below W3.heap.size W3 wc := below_via H6.out.2.2.1 HC.out.1 (Nat.le_refl _)
    exact ⟨H3.out.1.below h1, H3.out.2.1.below h1, below_via H3.out.2.2.1 h1 (Nat.le_refl _), below_blk h1 H3.out.2.2.2.lt H3.out.2.2.2, HC.out.2⟩
  clear HC H6 H3
  obtain ⟨cp, cs, hap, hcs⟩ := ap64 wc 48
  go_wp2_with (at_builtin; refine Lib.wpList_append_run _ rfl (.tmp 27) (.const (.int .i64 64)) 48 3 rfl _ _ rfl rfl _ _ hap ?_)
  refine (Parse_two _ cp (par_cell hcs) (by show wc.heap.size + 1 < ((wc.alloc _).alloc _).heap.size; rw [World.size_alloc, World.size_alloc]; omega)).mono ?_
  rintro e w7 ⟨rfl, hb7⟩
  have hb : Below wc.heap.size wc w7 := below_via (Below.drew ((al1 _).alloc (by simp) _)) hb7 (Nat.le_refl _)
  have H8 : Hid (Nb w7 (.slice a2 8 k2) exX ∧ Nb w7 (.slice b2 8 l2) exY ∧ Below w.heap.size w w7 ∧ Blk 24 w7 w2.heap.size [.slice a2 8 k2, .slice b2 8 l2] ∧ Blk 24 w7 bb [.slice xa 0 xk, .slice ya 0 yk]) := ⟨H7.out.1.below hb, H7.out.2.1.below hb, below_via H7.out.2.2.1 hb (Nat.le_refl _), below_blk hb H7.out.2.2.2.1.lt H7.out.2.2.2.1, below_blk hb H7.out.2.2.2.2.lt H7.out.2.2.2.2⟩
  clear hap hcs hb hb7 H7
  go_upto_region 5 with (fail)
  refine wp_gen (fun W => Below w7.heap.size w7 W) (al1 _) ?_
  rintro W8 hb
  obtain ⟨xb, xo, rfl, c0, c7⟩ := exX_cells (H8.out.1.below hb)
  have H9 : Hid (Nb W8 (.slice (some ⟨xb, xo, none⟩) 8 k2) exX ∧ Nb W8 (.slice b2 8 l2) exY ∧ Below w.heap.size w W8 ∧ Blk 24 W8 w2.heap.size [.slice (some ⟨xb, xo, none⟩) 8 k2, .slice b2 8 l2]) := ⟨H8.out.1.below hb, H8.out.2.1.below hb, below_via H8.out.2.2.1 hb (Nat.le_refl _), below_blk hb H8.out.2.2.2.1.lt H8.out.2.2.2.1⟩
  have p0 : W8.cell? ⟨w2.heap.size, 0, none⟩ = some (.slice (some ⟨xb, xo, none⟩) 8 k2) := H9.out.2.2.2.cell 0
  have hBb := below_blk hb H8.out.2.2.2.2.lt H8.out.2.2.2.2
  have z0 : W8.cell? ⟨bb, 0, none⟩ = some (.slice xa 0 xk) := hBb.cell 0
  have z1 : W8.cell? ⟨bb, 1, none⟩ = some (.slice ya 0 yk) := hBb.cell 1
  clear hb hBb H8
  go_wp2_with (first
    | (go_at_call 13; refine (num09_any _ _).mono ?_; rintro e w' ⟨rfl, rfl⟩)
    | (go_at_call 22; refine (Size2 (w := _)).mono ?_; rintro e w9 ⟨rfl, hb9⟩; have q0 : w9.cell? ⟨w2.heap.size, 0, none⟩ = some (.slice (some ⟨xb, xo, none⟩) 8 k2) := (below_blk hb9 H9.out.2.2.2.lt H9.out.2.2.2).cell 0; have q1 : w9.cell? ⟨w2.heap.size, 1, none⟩ = some (.slice b2 8 l2) := (below_blk hb9 H9.out.2.2.2.lt H9.out.2.2.2).cell 1; have HA : Hid (Nb w9 (.slice (some ⟨xb, xo, none⟩) 8 k2) exX ∧ Nb w9 (.slice b2 8 l2) exY ∧ Below w.heap.size w w9) := ⟨H9.out.1.below hb9, H9.out.2.1.below hb9, below_via H9.out.2.2.1 hb9 (Nat.le_refl _)⟩; clear hb9)
    | (go_at_call 23; refine (On1 _ _ HA.out.1 HA.out.2.1).mono ?_; rintro e w10 ⟨rfl, hb10⟩; have HB : Hid (Below w.heap.size w w10) := below_via HA.out.2.2 hb10 (Nat.le_refl _); clear hb10))
  go_ret
  exact ⟨rfl, HB.out⟩

end Go.Proofs.Ytkdclocjijmgpaa
/-
  Curves: the program's sums and multiples, in words of points.
-/
namespace Go.Proofs.Ytkdclocjijmgpaa
open Go.RowKit
set_option maxRecDepth 20000
open Gl (Pt Cok ec gen enc)
/-- A point in memory. -/
def PtV {C : Cv} [NeZero C.p] (w : World) (a : Option Addr) (n k : Nat) (b : Option Addr) (m l : Nat) (P : Pt C.p) : Prop :=
  Nb w (.slice a n k) (enc P).1 ∧ Nb w (.slice b m l) (enc P).2
theorem PtV.below {C : Cv} [NeZero C.p] {w w' : World} {a : Option Addr} {n k : Nat} {b : Option Addr} {m l : Nat} {P : Pt C.p} (h : PtV w a n k b m l P) (hb : Below w.heap.size w w') : PtV w' a n k b m l P := ⟨h.1.below hb, h.2.below hb⟩
theorem crv_p12 {c : Int} {C : Cv} (h : crv c = some C) : C.p < 4294967296 ^ 12 := by
  unfold crv at h
  split at h
  · cases h; decide
  · split at h
    · cases h; decide
    · cases h
theorem val_toNat (x : Nat) : (val (lim x)).toNat = x := gx_toNat x
theorem farB_lim (x y : Nat) : farB (lim x) (lim y) = decide (x = 0 ∧ y = 0) := by
  unfold farB
  rw [val_lim, val_lim]
  congr 1
  simp only [eq_iff_iff]
  omega
theorem triB_lim (x y : Nat) : triB (lim x) (lim y) = Gl.triN x y := by
  unfold triB Gl.triN
  rw [farB_lim, val_toNat, val_toNat]
  simp only [decide_eq_true_eq]
theorem z_gcd {C : Cv} [NeZero C.p] (g : Cok C) {z : Nat} (hz : z < C.p) (h0 : z ≠ 0) : Nat.gcd z C.p = 1 := by
  rw [Nat.gcd_comm]
  exact g.prp.cop fun hd => by have := Nat.le_of_dvd (by omega) hd; omega
theorem gen_enc {C : Cv} [NeZero C.p] (g : Cok C) : enc (gen C) = (C.gx, C.gy) := by
  show (C.gx % C.p, C.gy % C.p) = _
  rw [Nat.mod_eq_of_lt g.gl.1, Nat.mod_eq_of_lt g.gl.2]
theorem mixA_rp {C : Cv} [NeZero C.p] (g : Cok C) {P : Pt C.p} (hP : (ec C).On P) (A B : List Int) : Gl.Rp (mixA C A B (lim (enc P).1) (lim (enc P).2)) ((ec C).add ((ec C).mul (val A).toNat (gen C)) ((ec C).mul (val B).toNat P)) ∧ Lt3 C.p (mixA C A B (lim (enc P).1) (lim (enc P).2)) := by
  have h1 : 1 < C.p := by have := g.p3; omega
  have eg := gen_enc g
  have tg := Gl.triN_rp g.b0 h1 g.onG
  have tp := Gl.triN_rp g.b0 h1 hP
  rw [eg] at tg
  unfold mixA
  rw [triB_lim, triB_lim]
  have h := Gl.mixT_rp g.ok g.a3 tg.2 tp.2 g.onG hP tg.1 tp.1 ((val A).toNat % C.n) ((val B).toNat % C.n)
  rw [g.modn g.onG, g.modn hP] at h
  exact ⟨h, mixL_lt Gl.p_pos tg.2 tp.2 _⟩
end Go.Proofs.Ytkdclocjijmgpaa
