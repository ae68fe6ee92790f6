/-
  Der: the law DerBack, walked.
-/
import Derived.Test.YtndcpjnfdgojkaaDoorE61
import Derived.Test.YtndcpjnfdgojkaaDoorE29a
namespace Go.Proofs.YtndcpjnfdgojkaaDoor
open Go.RowKit
set_option maxRecDepth 20000 in
set_option maxHeartbeats 8000000 in
theorem DerBack_any {w : World} (a : Option Addr) (n c : Nat) (Z : List (El × Value)) (hZ : TlvArg w a n c Z) (hn0 : n ≤ 9223372036854775807) (hT : Tab w) :
    Calls Tryd.prog 6 #[.slice a n c] w fun e w' => e = .returned (.bool true) ∧ Below w.heap.size w w' := by
  by_cases hn : n ≤ 60
  · have HX : Hid (TlvArg w a n c Z ∧ Tab w) := ⟨hZ, hT⟩
    have hnI : (n : Int) ≤ 60 := by omega
    clear hZ hT
    go_enter Tryd.func6, Tryd.ntmps6
    go_wp2_with fail
    go_loopw [3, 4, 5] (fun av mv iv wr => ∃ (i : Nat) (L : List El) (v3 v4 : Value), v3 = av ∧ v4 = mv ∧ iv = .int .i64 i ∧ i ≤ n ∧ Row .u8 5 w.heap.size wr v3 (rawOf L) ∧ TlvM w wr v3 v4 L ∧ (∀ x ∈ L, Laid x ∧ U8s x.r ∧ x.d.length ≤ 1000 ∧ x.r.length ≤ 1020) ∧ L.length ≤ i ∧ (rawOf L).length ≤ 1020 * i ∧ Below w.heap.size w wr) (fun _ _ iv _ => n - (intOf iv).toNat)
    case atStart => exact ⟨0, [], _, _, rfl, rfl, rfl, by omega, Row.nil _ _ _ _, ⟨[], rfl, MRow.nil _ _ _ _, by simp, by simp⟩, by simp, by simp, by simp [rawOf], Below.refl _ _⟩
    case round =>
      obtain ⟨i, L, v3, v4, rfl, rfl, rfl, hi, hr3, hM, hL, hLi, hLr, hB⟩ := hrel
      by_cases hlt : i < n
      · have l1 : (i : Int) < (n : Int) := by omega
        obtain ⟨⟨x, d⟩, hz⟩ : ∃ z, Z[i]? = some z := ⟨_, List.getElem?_eq_getElem (by have := HX.out.1.1; omega)⟩
        obtain ⟨b, off, hab, hbw, hcells⟩ : ∃ b off, a = some ⟨b, off, none⟩ ∧ b < w.heap.size ∧ ∀ (i : Nat) (z : El × Value), Z[i]? = some z → w.cell? ⟨b, off + i * 5, none⟩ = some (.int .i64 z.1.cl) ∧ w.cell? ⟨b, off + i * 5 + 1, none⟩ = some (.int .i64 z.1.tg) ∧ w.cell? ⟨b, off + i * 5 + 2, none⟩ = some (.bool z.1.co) ∧ w.cell? ⟨b, off + i * 5 + 3, none⟩ = some z.2 := by
          rcases HX.out.1.2.2.1 with h | h
          · omega
          · exact h
        subst hab
        obtain ⟨q0, q1, q2, q3⟩ := hcells i _ hz
        have hzm := HX.out.1.2.2.2 _ (List.mem_of_getElem? hz)
        obtain ⟨cl, tg, co, xd, xr⟩ := x
        simp only [] at q0 q1 q2 q3 hzm
        obtain ⟨ad, cd, hd⟩ : ∃ a c, d = .slice a xd.length c := by obtain ⟨a, c, h, _⟩ := hzm.1; exact ⟨a, c, h⟩
        obtain ⟨nd, hnd⟩ : ∃ nd, xd.length = nd := ⟨_, rfl⟩
        rw [hnd] at hd
        subst hd
        have four : Hid (∀ W, Below w.heap.size w W → W.cell? ⟨b, off + i * 5, none⟩ = some (.int .i64 cl) ∧ W.cell? ⟨b, off + i * 5 + 1, none⟩ = some (.int .i64 tg) ∧ W.cell? ⟨b, off + i * 5 + 2, none⟩ = some (.bool co) ∧ W.cell? ⟨b, off + i * 5 + 3, none⟩ = some (.slice ad nd cd)) := fun W h => ⟨(h.cell hbw).trans q0, (h.cell hbw).trans q1, (h.cell hbw).trans q2, (h.cell hbw).trans q3⟩
        have e3 : wr.cell? ⟨b, off + i * 5 + 3, none⟩ = some (.slice ad nd cd) := (four.out _ hB).2.2.2
        have HR : Hid (Row .u8 5 w.heap.size wr v3 (rawOf L) ∧ TlvM w wr v3 v4 L ∧ (∀ x ∈ L, Laid x ∧ U8s x.r ∧ x.d.length ≤ 1000 ∧ x.r.length ≤ 1020) ∧ L.length ≤ i ∧ (rawOf L).length ≤ 1020 * i ∧ Below w.heap.size w wr) := ⟨hr3, hM, hL, hLi, hLr, hB⟩
        have HD : Hid (Sl .u8 w (.slice ad nd cd) xd ∧ U8s xd ∧ xd.length = nd) := ⟨hzm.1, hzm.2.1, hnd⟩
        have hndI : (nd : Int) ≤ 9223372036854775807 := by have := hzm.2.2; omega
        clear hr3 hM hL hLi hLr hz hcells hzm hnd q0 q1 q2 q3
        by_cases hbig : nd ≤ 1000
        · have hbI : (nd : Int) ≤ 1000 := by omega
          have hbw' : Below w.heap.size w wr := HR.out.2.2.2.2.2
          by_cases hok : headOk cl tg = true
          · have hh : 0 ≤ cl ∧ cl ≤ 3 ∧ 0 ≤ tg ∧ tg ≤ 268435455 := by unfold headOk at hok; simp at hok; omega
            obtain ⟨t, rfl⟩ := Int.eq_ofNat_of_zero_le hh.2.2.1
            obtain ⟨k, hk8, hk, hk1⟩ := ex_sev t (by omega)
            obtain ⟨l, hl8, hl0, hl1⟩ := ex_len xd.length (by have := HD.out.2.2; omega)
            obtain ⟨e, he⟩ : ∃ e, encB cl co t k l xd = e := ⟨_, rfl⟩
            have HE : Hid (Laid ⟨cl, t, co, xd, e⟩ ∧ U8s e ∧ e.length ≤ 1020 ∧ headOk cl t = true ∧ (t / 128 ^ k < 128 ∧ ∀ j, j < k → 128 ≤ t / 128 ^ j) ∧ (xd.length / 256 ^ l = 0 ∧ ∀ j, j < l → 0 < xd.length / 256 ^ j) ∧ encB cl co t k l xd = e) :=
              ⟨⟨t, k, l, rfl, he.symm, hok, hk, hk1, hl0, hl1, hl8, by have := HD.out.2.2; show xd.length ≤ _; omega⟩, by rw [← he]; exact encB_u8 cl co t k l xd hok hl8 HD.out.2.1, by rw [← he]; have := encB_le cl co t k l xd hk8 hl8; have := HD.out.2.2; omega, hok, ⟨hk, hk1⟩, ⟨hl0, hl1⟩, he⟩
            clear he hok hh hk hk1 hl0 hl1 hB
            go_upto_region 10 with (fail)
            go_region_held3 (fun W => Below w.heap.size w W ∧ W.cell? ⟨b, off + i * 5, none⟩ = some (.int .i64 cl) ∧ W.cell? ⟨b, off + i * 5 + 1, none⟩ = some (.int .i64 (t : Int)) ∧ W.cell? ⟨b, off + i * 5 + 2, none⟩ = some (.bool co) ∧ W.cell? ⟨b, off + i * 5 + 3, none⟩ = some (.slice ad nd cd)) (first | exact ⟨hbw'.drew, four.out _ hbw'.drew⟩ | exact (fun h => ⟨h, four.out _ h⟩) (al_d (And.left (by assumption))) | exact (fun h => ⟨h, four.out _ h⟩) (below_via (And.left (by assumption)) (by assumption) (Nat.le_refl _)))
              ((go_at_call 33; refine (Put_any cl t k l co (some ⟨wr.heap.size, 0, none⟩) 1 1 xd.length [.slice ad nd cd] [xd] (lists1 (T := 22) (by exact Blk.new _ wr _) (below_sl (And.left (by assumption)) HD.out.1) HD.out.2.1) (by simp) (by have := HD.out.2.2; omega) (by decide) HE.out.2.2.2.1 HE.out.2.2.2.2.1.1 HE.out.2.2.2.2.1.2 hk8 HE.out.2.2.2.2.2.1.1 HE.out.2.2.2.2.2.1.2 hl8).mono ?_; rintro e6 w6 ⟨r6, rfl, hr6, hb6⟩))
            have hbw6 : Below w.heap.size w w6 := And.left (by assumption)
            have hwr6 : Below wr.heap.size wr w6 := below_via (al1 _).drew hb6 (Nat.le_refl _)
            have hr6' : Row .u8 5 wr.heap.size w6 r6 e := by
              have h1 := HE.out.2.2.2.2.2.2
              unfold encB at h1
              rw [show ([xd] : List (List Int)).flatten = xd by simp, h1] at hr6
              exact hr6.mono (by simp)
            obtain ⟨a6, c6, hv6⟩ := hr6'.ne
            obtain ⟨n6, hn6⟩ : ∃ n6, e.length = n6 := ⟨_, rfl⟩
            rw [hn6] at hv6
            subst hv6
            have H6 : Hid (Row .u8 5 wr.heap.size w6 (.slice a6 n6 c6) e ∧ Below w.heap.size w w6 ∧ Row .u8 5 w.heap.size w6 v3 (rawOf L) ∧ TlvM w w6 v3 v4 L ∧ wr.heap.size ≤ w6.heap.size) := ⟨hr6', hbw6, HR.out.1.below hwr6, HR.out.2.1.below hwr6, hwr6.size⟩
            clear hbw6 hwr6 hr6' hr6 hb6 hn6 e3
            go_upto_region 15 with (first
              | (go_at_call 15; refine (num4_any _ _).mono ?_; rintro e w' ⟨rfl, rfl⟩)
              | (at_builtin; refine wpList_apL rfl (.tmp 65) (.tmp 66) 22 22 rfl .u8 5 1 Tryd.und8 Tryd.info8 (by decide) w.heap.size _ (rawOf L) rfl H6.out.2.2.1 _ e rfl (src_sl Tryd.und8 H6.out.1.sl) (by have := HR.out.2.2.2.2.1; have := HE.out.2.2.1; omega) H6.out.2.1.size ?_; intro v7 w7 hr7 hg7 hl7))
            obtain ⟨Y, hY1, hY2, hY3, hY4⟩ := H6.out.2.2.2.1
            have ho7 := hg7.onl
            have hbv3 : ∀ j, blkOf v3 = some j → w.heap.size ≤ j ∧ j < wr.heap.size := fun j hj => HR.out.1.blk_lt hj
            have hr67 : Row .u8 5 wr.heap.size w7 (.slice a6 n6 c6) e := ho7.row H6.out.1 (fun b hb hd => by have := (hbv3 b hd).2; have := (H6.out.1.blk_lt hb).1; omega)
            have hbw7 : Below w.heap.size w w7 := ho7.below H6.out.2.1 H6.out.2.1.size (fun j hj => (hbv3 j hj).1)
            have hm7 : MRow 5 32 w.heap.size w7 v4 Y.length (tlvCells Y) := ho7.mrow hY2 (fun _ _ hS _ hd => H6.out.2.2.1.not_tlv hS hd)
            have H7 : Hid (Row .u8 5 wr.heap.size w7 (.slice a6 n6 c6) e ∧ Row .u8 5 w.heap.size w7 v7 (rawOf L ++ e) ∧ (∀ y ∈ Y, Sl .u8 w y.2.1 y.1.d ∧ Row .u8 5 w.heap.size w7 y.2.2 y.1.r) ∧ (∀ y ∈ Y, ∀ b, blkOf v7 = some b → blkOf y.2.2 ≠ some b) ∧ (∀ b, blkOf v7 = some b → blkOf (.slice a6 n6 c6) ≠ some b) ∧ Y.map (·.1) = L) := by
              refine ⟨hr67, hr7, fun y hy => ⟨(hY3 y hy).1, ho7.row (hY3 y hy).2 (fun b hb hd => hY4 y hy b hd hb)⟩, fun y hy b hb hb' => ?_, fun b hb hb' => ?_, hY1⟩
              · rcases hl7 with h | h
                · rw [h] at hb; exact hY4 y hy b hb hb'
                · rw [h] at hb
                  simp only [Option.some.injEq] at hb
                  have := ((hY3 y hy).2.blk_lt hb').2
                  omega
              · have h1 := H6.out.1.blk_lt hb'
                rcases hl7 with h | h
                · rw [h] at hb; have := (hbv3 b hb).2; omega
                · rw [h] at hb
                  simp only [Option.some.injEq] at hb
                  omega
            have HY : Hid (Y.length ≤ 60) := by
              show _ ≤ _
              have h1 := HR.out.2.2.2.1
              rw [← hY1, List.length_map] at h1
              omega
            clear hr7 hg7 hl7 ho7 hbv3 hr67 hY1 hY2 hY3 hY4
            go_region_held3 (fun W => Below w.heap.size w W ∧ W.cell? ⟨b, off + i * 5, none⟩ = some (.int .i64 cl) ∧ W.cell? ⟨b, off + i * 5 + 1, none⟩ = some (.int .i64 (t : Int)) ∧ W.cell? ⟨b, off + i * 5 + 2, none⟩ = some (.bool co) ∧ W.cell? ⟨b, off + i * 5 + 3, none⟩ = some (.slice ad nd cd)) (first | exact ⟨hbw7.drew, four.out _ hbw7.drew⟩ | exact (fun h => ⟨h, four.out _ h⟩) (al_d (And.left (by assumption))) | exact (fun h => ⟨h, four.out _ h⟩) (Below.trans (And.left (by assumption)) (by assumption)))
              ((refine step_apm (by rfl) (.tmp 68) (.tmp 91) 25 25 (by rfl) 5 zeroT rfl 32 72 Tryd.undT Tryd.infoT (by decide) w.heap.size _ Y.length _ (by rfl) (hm7.below (Below.drew (al1 _))) _ 1 [.int .i64 cl, .int .i64 (t : Int), .bool co, .slice ad nd cd, .slice a6 n6 c6] (by rfl) (src_m (T := 32) Tryd.undT 5 (by exact Blk.new _ w7 _) rfl (tlv_one _ _ _ _ _ _ _ _ _)) (by have := HY.out; omega) (Below.size (And.left (by assumption))) ?_; intro v9 w9 hr9 hg9; have hb9 := hg9.below (hm7.below (Below.drew (al1 _))) (Below.size (And.left (by assumption)))))
            have hbw9 : Below w.heap.size w w9 := And.left (by assumption)
            have hdr : Below w7.heap.size w7 (w7.alloc (.cells #[.int .i64 cl, .int .i64 (t : Int), .bool co, .slice ad nd cd, .slice a6 n6 c6] 32)).drew := (al1 _).drew
            have H9 : Hid (Row .u8 5 w.heap.size w9 v7 (rawOf (L ++ [⟨cl, t, co, xd, e⟩])) ∧ TlvM w w9 v7 v9 (L ++ [⟨cl, t, co, xd, e⟩]) ∧ (∀ x ∈ L ++ [⟨cl, t, co, xd, e⟩], Laid x ∧ U8s x.r ∧ x.d.length ≤ 1000 ∧ x.r.length ≤ 1020) ∧ (L ++ [(⟨cl, t, co, xd, e⟩ : El)]).length ≤ i + 1 ∧ (rawOf (L ++ [⟨cl, t, co, xd, e⟩])).length ≤ 1020 * (i + 1) ∧ Below w.heap.size w w9) := by
              have hraw : rawOf (L ++ [⟨cl, t, co, xd, e⟩]) = rawOf L ++ e := by unfold rawOf; simp
              refine ⟨by rw [hraw]; exact (H7.out.2.1.below hdr).mgrew hg9, ⟨Y ++ [(⟨cl, t, co, xd, e⟩, .slice ad nd cd, .slice a6 n6 c6)], ?_, ?_, ?_, ?_⟩, ?_, ?_, ?_, hbw9⟩
              · rw [List.map_append, H7.out.2.2.2.2.2]; rfl
              · rw [tlvCells_snoc, List.length_append]; exact hr9
              · intro y hy
                rcases List.mem_append.1 hy with hy | hy
                · exact ⟨(H7.out.2.2.1 y hy).1, ((H7.out.2.2.1 y hy).2.below hdr).mgrew hg9⟩
                · rw [List.mem_singleton] at hy
                  subst hy
                  exact ⟨HD.out.1, (((H7.out.1.below hdr).mgrew hg9)).mono HR.out.2.2.2.2.2.size⟩
              · intro y hy b hb
                rcases List.mem_append.1 hy with hy | hy
                · exact H7.out.2.2.2.1 y hy b hb
                · rw [List.mem_singleton] at hy
                  subst hy
                  exact H7.out.2.2.2.2.1 b hb
              · intro x hx
                rcases List.mem_append.1 hx with hx | hx
                · exact HR.out.2.2.1 x hx
                · rw [List.mem_singleton] at hx
                  subst hx
                  exact ⟨HE.out.1, HE.out.2.1, by have := HD.out.2.2; show xd.length ≤ _; omega, HE.out.2.2.1⟩
              · rw [List.length_append]; have := HR.out.2.2.2.1; simp; omega
              · rw [hraw, List.length_append]; have := HR.out.2.2.2.2.1; have := HE.out.2.2.1; omega
            clear hbw9 hdr hr9 hg9 hb9 hm7 hbw7
            go_wp2
            go_roundw
            case rel => exact ⟨i + 1, _, _, _, rfl, rfl, by go_num, by omega, H9.out.1, H9.out.2.1, H9.out.2.2.1, H9.out.2.2.2.1, H9.out.2.2.2.2.1, H9.out.2.2.2.2.2⟩
            case measure => simp [intOf]; omega
          · have hok' : headOk cl tg = false := by simpa using hok
            clear hok hB
            go_upto_region 10 with (fail)
            go_region_held3 (fun W => Below w.heap.size w W ∧ W.cell? ⟨b, off + i * 5, none⟩ = some (.int .i64 cl) ∧ W.cell? ⟨b, off + i * 5 + 1, none⟩ = some (.int .i64 (tg)) ∧ W.cell? ⟨b, off + i * 5 + 2, none⟩ = some (.bool co) ∧ W.cell? ⟨b, off + i * 5 + 3, none⟩ = some (.slice ad nd cd)) (first | exact ⟨hbw'.drew, four.out _ hbw'.drew⟩ | exact (fun h => ⟨h, four.out _ h⟩) (al_d (And.left (by assumption))) | assumption)
              ((go_at_call 33; refine (Put_no cl tg co _ hok').mono ?_; rintro e6 w6 ⟨rfl, hw6⟩; subst hw6))
            have hwr6 : Below wr.heap.size wr (wr.alloc (.cells #[.slice ad nd cd] 22)).drew := (al1 _).drew
            have H6 : Hid (Row .u8 5 w.heap.size (wr.alloc (.cells #[.slice ad nd cd] 22)).drew v3 (rawOf L) ∧ TlvM w (wr.alloc (.cells #[.slice ad nd cd] 22)).drew v3 v4 L ∧ Below w.heap.size w (wr.alloc (.cells #[.slice ad nd cd] 22)).drew) := ⟨HR.out.1.below hwr6, HR.out.2.1.below hwr6, below_via HR.out.2.2.2.2.2 hwr6 (Nat.le_refl _)⟩
            clear hwr6 e3
            go_wp2_with (go_at_call 15; refine (num4_any _ _).mono ?_; rintro e w' ⟨rfl, rfl⟩)
            go_roundw
            case rel => exact ⟨i + 1, L, _, _, rfl, rfl, by go_num, by omega, H6.out.1, H6.out.2.1, HR.out.2.2.1, by have := HR.out.2.2.2.1; omega, by have := HR.out.2.2.2.2.1; omega, H6.out.2.2⟩
            case measure => simp [intOf]; omega
        · have hbI : (1000 : Int) < (nd : Int) := by omega
          go_wp2_with (go_at_call 8; refine (live_any (HX.out.2.below HR.out.2.2.2.2.2)).mono ?_; rintro e w8 ⟨rfl, hb8⟩)
          go_ret
          exact ⟨rfl, below_via HR.out.2.2.2.2.2 hb8 (Nat.le_refl _)⟩
      · obtain rfl : i = n := by omega
        have l1 : ¬ (i : Int) < (i : Int) := by omega
        obtain ⟨a3, c3, hv3⟩ := hr3.ne
        obtain ⟨N, hN⟩ : ∃ N, (rawOf L).length = N := ⟨_, rfl⟩
        rw [hN] at hv3
        subst hv3
        have hu : U8s (rawOf L) := by
          intro z hz
          unfold rawOf at hz
          obtain ⟨x, hx, hzx⟩ := List.mem_flatMap.1 hz
          exact (hL x hx).2.1 z hzx
        have hS : splitS (rawOf L) = .ok L := split_laid hu L (fun x hx => (hL x hx).1) rfl (by omega) (by omega)
        have HR : Hid (Row .u8 5 w.heap.size wr (.slice a3 N c3) (rawOf L) ∧ TlvM w wr (.slice a3 N c3) v4 L ∧ (∀ x ∈ L, Laid x ∧ U8s x.r ∧ x.d.length ≤ 1000 ∧ x.r.length ≤ 1020) ∧ L.length ≤ i ∧ (rawOf L).length ≤ 1020 * i ∧ Below w.heap.size w wr ∧ U8s (rawOf L) ∧ splitS (rawOf L) = .ok L ∧ (rawOf L).length = N) := ⟨hr3, hM, hL, hLi, hLr, hB, hu, hS, hN⟩
        clear hr3 hM hL hLi hLr hB hu hS hN
        go_wp2_with fail
        refine (SplitS_any _ (rawOf L) HR.out.1.sl HR.out.2.2.2.2.2.2.1 (by have := HR.out.2.2.2.2.1; omega)).mono ?_
        rintro e w5 ⟨ha, hb5⟩
        unfold SplitAns at ha
        rw [HR.out.2.2.2.2.2.2.2.1, HR.out.2.2.2.2.2.2.2.2] at ha
        obtain ⟨v5, rfl, ht5⟩ : ∃ v, e = .returned (.tuple #[v, .int .i64 0, .int .i64 N]) ∧ Tlvs wr.heap.size w5 v L := ha
        have H5 : Hid (TlvS w5 v5 L ∧ TlvS w5 v4 L ∧ Below w.heap.size w w5) := ⟨ht5.r.s, (HR.out.2.1.s HR.out.2.2.2.2.2.1).below hb5, below_via HR.out.2.2.2.2.2.1 hb5 (Nat.le_refl _)⟩
        clear ht5 hb5
        go_wp2_with (first
          | (go_at_call 15; refine (num4_any _ _).mono ?_; rintro e w' ⟨rfl, rfl⟩))
        refine (Same_any _ _ L H5.out.1 H5.out.2.1 (by have := HR.out.2.2.2.1; omega) (fun y hy => by have := HR.out.2.2.1 y hy; omega)).mono ?_
        rintro e w6 ⟨rfl, hb6⟩
        have H6 : Hid (Below w.heap.size w w6) := below_via H5.out.2.2 hb6 (Nat.le_refl _)
        clear hb6
        go_wp2_with (go_at_call 8; refine (live_any (HX.out.2.below H6.out)).mono ?_; rintro e w7 ⟨rfl, hb7⟩)
        go_ret
        exact ⟨rfl, below_via H6.out hb7 (Nat.le_refl _)⟩
  · have HX : Hid (Tab w) := hT
    have hnI : (60 : Int) < (n : Int) := by omega
    clear hZ hT
    go_enter Tryd.func6, Tryd.ntmps6
    go_wp2_with (go_at_call 8; refine (live_any HX.out).mono ?_; rintro e w8 ⟨rfl, hb8⟩)
    go_ret
    exact ⟨rfl, hb8⟩
end Go.Proofs.YtndcpjnfdgojkaaDoor
