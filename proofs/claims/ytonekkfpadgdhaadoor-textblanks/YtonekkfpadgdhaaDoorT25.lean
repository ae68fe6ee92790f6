/-
  Text: TextBlanks.
-/
import Derived.Test.YtonekkfpadgdhaaDoorT24
namespace Go.Proofs.YtonekkfpadgdhaaDoor
open Go.RowKit
def turnN (tu : List UInt8) (i : Nat) : Nat := if tu.length = 0 then 0 else (tu.getD (i % tu.length) 0).toNat
theorem rd_new32 (w : World) : Rd .u8 (w.alloc (.cells #[.int .u8 32] 5 (1, 2))) w.heap.size 0 [32] := fun j hj => by
  have h0 : j = 0 := by simp at hj; omega
  subst h0
  rw [cell_of_row _ _ _ #[.int .u8 32] 5 (1, 2) (heap_alloc_new _ _)]
  rfl
theorem src_two (w : World) : Src Tryd.prog 1 9 (.string ⟨#[32, 32]⟩) 2 ([32, 32].map (Value.int .u8)) w := Src.ofString w Tryd.str ⟨#[32, 32]⟩
set_option maxHeartbeats 8000000 in
set_option maxRecDepth 100000 in
theorem TextBlanks_any {w : World} (tag : Int) (v u : Value) (l tu : List UInt8) (hX : Sl .u8 w v (nums l)) (hU : Sl .u8 w u (nums tu)) (ll : l.length ≤ 9223372036854775807) (lt : tu.length ≤ 9223372036854775807)
    (h0 : -9223372036854775808 ≤ tag) (h1 : tag ≤ 9223372036854775807) (hT : Tab w) :
    Calls Tryd.prog 7 #[.int .i64 tag, v, u] w fun e w' => e = .returned (.bool true) ∧ Below w.heap.size w w' := by
  have HT : Hid (Tab w) := hT
  have HX : Hid (Sl .u8 w v (nums l)) := hX
  obtain ⟨a, c, hv, hc, hr⟩ := hX
  rw [nums_len] at hv hc
  subst hv
  obtain ⟨n, hn⟩ : ∃ n, l.length = n := ⟨_, rfl⟩
  have HN : Hid (l.length = n) := hn
  rw [hn] at hc ll
  have HR : Hid (nums l = [] ∨ ∃ b off, a = some ⟨b, off, none⟩ ∧ b < w.heap.size ∧ Rd .u8 w b off (nums l)) := hr
  rw [hn] at HX ⊢
  obtain ⟨a2, c2, hv2, hc2, hr2⟩ := hU
  rw [nums_len] at hv2 hc2
  subst hv2
  have HTU : Hid (∀ i, turnN tu i = if tu.length = 0 then 0 else (tu.getD (i % tu.length) 0).toNat) := fun _ => rfl
  obtain ⟨m, hm⟩ : ∃ m, tu.length = m := ⟨_, rfl⟩
  have HM : Hid (tu.length = m) := hm
  rw [hm] at hc2 lt HTU
  have HR2 : Hid (nums tu = [] ∨ ∃ b off, a2 = some ⟨b, off, none⟩ ∧ b < w.heap.size ∧ Rd .u8 w b off (nums tu)) := hr2
  rw [hm]
  clear hT hr hn hr2 hm
  have lz : (n : Int) ≤ 9223372036854775807 := by omega
  have cz : (n : Int) ≤ (c : Int) := by omega
  have mz : (m : Int) ≤ 9223372036854775807 := by omega
  have dz : (m : Int) ≤ (c2 : Int) := by omega
  by_cases hbig : n ≤ 2000 ∧ tag ≠ 30
  · have b1 : ¬ (2000 : Int) < (n : Int) := by omega
    have b2 : (tag == 30) = false := by simp; omega
    have HT1 : Hid (∀ W : World, Below w.heap.size w W → Calls Tryd.prog 11 #[.int .i64 tag, .slice a n c] W fun e w' => e = TextEnd tag l ∧ Below W.heap.size W w') := fun W hW => Text_any tag _ l (below_sl hW HX.out) (by have := HN.out; omega) (HT.out.below hW).u8
    have HE1 : Hid ((textS tag l).2 = 0 → keyB tag (wrapS (outS (turnN tu) 0 l)) = keyB tag l) := fun h => key_wrap (turnN tu) tag l hbig.2 h
    have HN2 : Hid (n ≤ 2000) := hbig.1
    unfold TextEnd at HT1
    obtain ⟨S1, hS1⟩ : ∃ S, str (textS tag l).1 = S := ⟨_, rfl⟩
    obtain ⟨E1, hE1⟩ : ∃ E, (textS tag l).2 = E := ⟨_, rfl⟩
    rw [hS1, hE1] at HT1
    rw [hE1] at HE1
    clear hS1 hE1 hbig
    by_cases e1 : E1 = 0
    · have hK := HE1.out e1
      subst e1
      have HK : Hid (keyB tag (wrapS (outS (turnN tu) 0 l)) = keyB tag l) := hK
      clear HE1 hK
      have HKD : Hid (∀ W : World, Below w.heap.size w W → Calls Tryd.prog 17 #[.int .i64 tag, .slice a n c] W fun e w' => e = .returned (.string (str (keyB tag l))) ∧ Below W.heap.size W w') := fun W hW => Key_any tag _ l (below_sl hW HX.out) (by have := HN.out; have := HN2.out; omega) h0 h1 (HT.out.below hW).u8 (HT.out.below hW).pw
      have HKO : Hid (∀ (W : World) (y : Value), Below w.heap.size w W → Sl .u8 W y (nums (wrapS (outS (turnN tu) 0 l))) → Calls Tryd.prog 17 #[.int .i64 tag, y] W fun e w' => e = .returned (.string (str (keyB tag l))) ∧ Below W.heap.size W w') := fun W y hW hy => by
        have := Key_any (w := W) tag y (wrapS (outS (turnN tu) 0 l)) hy (by have := outS_len (turnN tu) l 0; have := HN.out; have := HN2.out; unfold wrapS; simp; omega) h0 h1 (HT.out.below hW).u8 (HT.out.below hW).pw
        rw [HK.out] at this
        exact this
      have HAO : Hid (∀ (W : World) (y : Value), Below w.heap.size w W → Sl .u8 W y (nums (wrapS (outS (turnN tu) 0 l))) → Calls Tryd.prog 19 #[.int .i64 tag, .slice a n c, .int .i64 tag, y] W fun e w' => e = .returned (.bool true) ∧ Below W.heap.size W w') := fun W y hW hy => by
        have := Alike_any (w := W) tag tag _ y l (wrapS (outS (turnN tu) 0 l)) (below_sl hW HX.out) hy (by have := HN.out; have := HN2.out; omega) (by have := outS_len (turnN tu) l 0; have := HN.out; have := HN2.out; unfold wrapS; simp; omega) h0 h1 h0 h1 (HT.out.below hW).u8 (HT.out.below hW).pw
        rw [decide_eq_true HK.out.symm] at this
        exact this
      obtain ⟨KS, hKS⟩ : ∃ S, str (keyB tag l) = S := ⟨_, rfl⟩
      rw [hKS] at HKD HKO
      have kc := fun (w : World) (C : Array Value) (n c : Nat) => Lib.run_convert_bytes_const (P := Tryd.prog) w 22 5 C n c Tryd.und8 Tryd.e8
      clear hKS
      go_enter Tryd.func7, Tryd.ntmps7
      go_wp2_with fail
      refine (HT1.out _ (Below.refl _ _)).mono ?_
      rintro e w2 ⟨rfl, hb⟩
      have H2 : Hid (Below w.heap.size w w2) := hb
      clear hb
      go_wp2_with (go_at_call 13; refine (num_any _).mono ?_; rintro e w' ⟨rfl, rfl⟩)
      go_loopw [9, 10] (fun ov iv wr => ∃ (i : Nat) (oa : Option Addr) (on oc : Nat), ov = .slice oa on oc ∧ iv = .int .i64 i ∧ i ≤ n ∧ Row .u8 5 w.heap.size wr (.slice oa on oc) (nums (outS (turnN tu) 0 (l.take i))) ∧ Below w.heap.size w wr) (fun _ iv _ => n - (intOf iv).toNat)
      case atStart => exact ⟨0, _, _, _, rfl, rfl, Nat.zero_le _, row0.mono H2.out.size, al2' H2.out⟩
      case round =>
        obtain ⟨i, oa, on, oc, rfl, rfl, hi, hRow, hb⟩ := hrel
        have HB : Hid (Row .u8 5 w.heap.size wr (.slice oa on oc) (nums (outS (turnN tu) 0 (l.take i))) ∧ Below w.heap.size w wr) := ⟨hRow, hb⟩
        have hon : on = (nums (outS (turnN tu) 0 (l.take i))).length := by
          obtain ⟨a', c', e⟩ := hRow.ne
          cases e; rfl
        have HON : Hid (on = (nums (outS (turnN tu) 0 (l.take i))).length ∧ on ≤ 6000) := ⟨hon, by
          rw [hon, nums_len]
          have := outS_len (turnN tu) (l.take i) 0
          rw [List.length_take] at this
          have := HN2.out
          omega⟩
        clear hRow hb hon
        by_cases hlt : i < n
        · have z1 : (i : Int) < (n : Int) := by omega
          rcases HR.out with hnil | ⟨b, off, rfl, hbl, hrd⟩
          · have := congrArg List.length hnil
            rw [nums_len, HN.out, List.length_nil] at this
            omega
          have c1 : wr.cell? ⟨b, off + i, none⟩ = some (.int .u8 (l.getD i 0).toNat) := by
            have := (below_rd HB.out.2 hbl hrd) i (by rw [nums_len, HN.out]; omega)
            rw [nums_get l i (by rw [HN.out]; omega)] at this; exact this
          have hnx := outS_next (turnN tu) l i (by rw [HN.out]; exact hlt)
          obtain ⟨x, hx⟩ : ∃ x, l.getD i 0 = x := ⟨_, rfl⟩
          rw [hx] at c1 hnx
          obtain ⟨O, hO⟩ : ∃ O, outS (turnN tu) 0 (l.take i) = O := ⟨_, rfl⟩
          rw [hO] at HB HON hnx
          obtain ⟨tn, htn⟩ : ∃ tn, turnN tu i = tn := ⟨_, rfl⟩
          have HTN : Hid (tn = if m = 0 then 0 else (tu.getD (i % m) 0).toNat) := by show _ = _; rw [← htn]; exact HTU.out i
          rw [htn] at hnx
          have HNX : Hid (outS (turnN tu) 0 (l.take (i + 1)) = O ++ oneS x tn) := hnx
          have x256 : (x.toNat : Int) < 256 := by have := x.toNat_lt; omega
          have HXL := turn_letter x
          clear hx hnx hO htn hrd hbl
          by_cases hm0 : m = 0
          · subst hm0
            have htn0 : tn = 0 := by rw [HTN.out]; rfl
            by_cases hx32 : x = 32
            · have HO : Hid (oneS x tn = [32]) := by
                show _ = _
                have e : flip x tn = x := by unfold flip; rw [if_neg (fun h => by have := h.1; omega)]
                unfold oneS
                rw [e, if_neg (fun h => by have := h.2; omega), hx32]
              have HV : Hid (nums [32] = [32]) := by
                rfl
              clear HXL
              subst hx32
              go_wp2_with (at_builtin; refine wpList_ap rfl (.tmp 73) (.tmp 75) 22 22 rfl .u8 5 1 Tryd.und8 Tryd.info8 (by decide) w.heap.size _ (nums O) rfl (HB.out.1.alloc _) _ [32] rfl (src_sl Tryd.und8 (new1 _)) (by have := HON.out; simp; omega) (by have := HB.out.2.size; simp; omega) ?_; intro v1 w3 hr hg)
              have hb1 := hg.below (HB.out.1.alloc _) (by have := HB.out.2.size; simp; omega)
              have H1 : Hid (Row .u8 5 w.heap.size w3 v1 (nums (outS (turnN tu) 0 (l.take (i + 1)))) ∧ Below w.heap.size w w3) := ⟨by rw [HNX.out, HO.out, nums_app, HV.out]; exact hr, (HB.out.2.alloc HB.out.2.size _).trans hb1⟩
              obtain ⟨va, vc, hv1⟩ := hr.ne
              obtain ⟨q, hq⟩ : ∃ q, (nums O ++ [32]).length = q := ⟨_, rfl⟩
              rw [hq] at hv1
              subst hv1
              clear hr hg hb1 hq
              go_wp2
              go_roundw
              case rel => exact ⟨i + 1, _, _, _, rfl, by go_num, by omega, H1.out.1, H1.out.2⟩
              case measure => simp [intOf]; omega
            · have x32 : ((x.toNat : Int) == 32) = false := by rw [beq_eq_false_iff_ne]; intro h; exact hx32 (u8_eq (by simp; omega))
              have HO : Hid (oneS x tn = [x]) := by
                show _ = _
                have e : flip x tn = x := by unfold flip; rw [if_neg (fun h => by have := h.1; omega)]
                unfold oneS
                rw [e, if_neg (fun h => hx32 h.1)]
              have HV : Hid (nums [x] = [(x.toNat : Int)]) := by
                rfl
              clear HXL
              go_wp2_with (at_builtin; refine wpList_ap rfl (.tmp 73) (.tmp 75) 22 22 rfl .u8 5 1 Tryd.und8 Tryd.info8 (by decide) w.heap.size _ (nums O) rfl (HB.out.1.alloc _) _ [(x.toNat : Int)] rfl (src_sl Tryd.und8 (new1 _)) (by have := HON.out; simp; omega) (by have := HB.out.2.size; simp; omega) ?_; intro v1 w3 hr hg)
              have hb1 := hg.below (HB.out.1.alloc _) (by have := HB.out.2.size; simp; omega)
              have H1 : Hid (Row .u8 5 w.heap.size w3 v1 (nums (outS (turnN tu) 0 (l.take (i + 1)))) ∧ Below w.heap.size w w3) := ⟨by rw [HNX.out, HO.out, nums_app, HV.out]; exact hr, (HB.out.2.alloc HB.out.2.size _).trans hb1⟩
              obtain ⟨va, vc, hv1⟩ := hr.ne
              obtain ⟨q, hq⟩ : ∃ q, (nums O ++ [(x.toNat : Int)]).length = q := ⟨_, rfl⟩
              rw [hq] at hv1
              subst hv1
              clear hr hg hb1 hq
              go_wp2
              go_roundw
              case rel => exact ⟨i + 1, _, _, _, rfl, by go_num, by omega, H1.out.1, H1.out.2⟩
              case measure => simp [intOf]; omega
          · have m0 : (0 : Int) < (m : Int) := by omega
            have htn0 : tn = (tu.getD (i % m) 0).toNat := by rw [HTN.out, if_neg hm0]
            rcases HR2.out with hnil | ⟨b2, off2, rfl, hbl2, hrd2⟩
            · have := congrArg List.length hnil
              rw [nums_len, HM.out, List.length_nil] at this
              omega
            have im := Nat.mod_lt i (show 0 < m by omega)
            have q1 : wr.cell? ⟨b2, off2 + (i % m), none⟩ = some (.int .u8 (tn : Int)) := by
              have := (below_rd HB.out.2 hbl2 hrd2) (i % m) (by rw [nums_len, HM.out]; exact im)
              rw [nums_get tu _ (by rw [HM.out]; exact im), ← htn0] at this; exact this
            have tn256 : tn < 256 := by rw [htn0]; exact UInt8.toNat_lt _
            have hrem : (i : Int) % (m : Int) = ((i % m : Nat) : Int) := by omega
            obtain ⟨r, hr⟩ : ∃ r, i % m = r := ⟨_, rfl⟩
            rw [hr] at hrem q1 im
            have rz : (r : Int) < (m : Int) := by omega
            have tz : (tn : Int) < 256 := by omega
            clear htn0 hrd2 hbl2 hr HTN
            by_cases hx32 : x = 32
            · by_cases h3 : tn % 3 = 1
              · have t3 : (tn : Int) % 3 = 1 := by omega
                by_cases h2 : tn % 2 = 1
                · have t2 : (tn : Int) % 2 = 1 := by omega
                  have HO : Hid (oneS x tn = [32, 32, 32]) := by
                    show _ = _
                    have e : flip x tn = x := by unfold flip; rw [if_neg (fun h => by rw [hx32] at h; exact absurd h.2 (by decide))]
                    unfold oneS
                    rw [e, if_pos ⟨hx32, h3⟩, hx32]
                  clear HXL
                  subst hx32
                  go_wp2_with (first
                    | (at_builtin; replace hr := hr; refine wpList_ap rfl (.tmp 84) (.tmp 85) 22 22 rfl .u8 5 1 Tryd.und8 Tryd.info8 (by decide) w.heap.size _ (nums O ++ [32]) rfl (hr.alloc _) _ [32, 32] rfl (src_sl Tryd.und8 (new_sl [32, 32] (0, 0))) (by have := HON.out; simp; omega) (by have := hb1.size; simp; omega) ?_; intro v2 w4 hr2 hg2)
                    | (at_builtin; refine wpList_ap rfl (.tmp 73) (.tmp 75) 22 22 rfl .u8 5 1 Tryd.und8 Tryd.info8 (by decide) w.heap.size _ (nums O) rfl (HB.out.1.alloc _) _ [32] rfl (src_sl Tryd.und8 (new1 _)) (by have := HON.out; simp; omega) (by have := HB.out.2.size; simp; omega) ?_; intro v1 w3 hr hg; have hb1 : Below w.heap.size w w3 := (HB.out.2.alloc HB.out.2.size _).trans (hg.below (HB.out.1.alloc _) (by have := HB.out.2.size; simp; omega))))
                  have hb2 : Below w.heap.size w w4 := (hb1.alloc hb1.size _).trans (hg2.below (hr.alloc _) (by have := hb1.size; simp; omega))
                  have H1 : Hid (Row .u8 5 w.heap.size w4 v2 (nums (outS (turnN tu) 0 (l.take (i + 1)))) ∧ Below w.heap.size w w4) := ⟨by rw [HNX.out, HO.out, nums_app, show nums O ++ nums [32, 32, 32] = nums O ++ [32] ++ [32, 32] by simp [nums]]; exact hr2, hb2⟩
                  obtain ⟨va, vc, hv1⟩ := hr2.ne
                  obtain ⟨q, hq⟩ : ∃ q, (nums O ++ [32] ++ [32, 32]).length = q := ⟨_, rfl⟩
                  rw [hq] at hv1
                  subst hv1
                  clear hr hg hb1 hr2 hg2 hb2 hq
                  go_wp2
                  go_roundw
                  case rel => exact ⟨i + 1, _, _, _, rfl, by go_num, by omega, H1.out.1, H1.out.2⟩
                  case measure => simp [intOf]; omega
                · have t2 : (tn : Int) % 2 = 0 := by omega
                  have HO : Hid (oneS x tn = [32, 32, 32]) := by
                    show _ = _
                    have e : flip x tn = x := by unfold flip; rw [if_neg (fun h => by rw [hx32] at h; exact absurd h.2 (by decide))]
                    unfold oneS
                    rw [e, if_pos ⟨hx32, h3⟩, hx32]
                  clear HXL
                  subst hx32
                  go_wp2_with (first
                    | (at_builtin; replace hr := hr; refine wpList_ap rfl (.tmp 84) (.tmp 85) 22 22 rfl .u8 5 1 Tryd.und8 Tryd.info8 (by decide) w.heap.size _ (nums O ++ [32]) rfl (hr.alloc _) _ [32, 32] rfl (src_sl Tryd.und8 (new_sl [32, 32] (0, 0))) (by have := HON.out; simp; omega) (by have := hb1.size; simp; omega) ?_; intro v2 w4 hr2 hg2)
                    | (at_builtin; refine wpList_ap rfl (.tmp 73) (.tmp 75) 22 22 rfl .u8 5 1 Tryd.und8 Tryd.info8 (by decide) w.heap.size _ (nums O) rfl (HB.out.1.alloc _) _ [32] rfl (src_sl Tryd.und8 (new1 _)) (by have := HON.out; simp; omega) (by have := HB.out.2.size; simp; omega) ?_; intro v1 w3 hr hg; have hb1 : Below w.heap.size w w3 := (HB.out.2.alloc HB.out.2.size _).trans (hg.below (HB.out.1.alloc _) (by have := HB.out.2.size; simp; omega))))
                  have hb2 : Below w.heap.size w w4 := (hb1.alloc hb1.size _).trans (hg2.below (hr.alloc _) (by have := hb1.size; simp; omega))
                  have H1 : Hid (Row .u8 5 w.heap.size w4 v2 (nums (outS (turnN tu) 0 (l.take (i + 1)))) ∧ Below w.heap.size w w4) := ⟨by rw [HNX.out, HO.out, nums_app, show nums O ++ nums [32, 32, 32] = nums O ++ [32] ++ [32, 32] by simp [nums]]; exact hr2, hb2⟩
                  obtain ⟨va, vc, hv1⟩ := hr2.ne
                  obtain ⟨q, hq⟩ : ∃ q, (nums O ++ [32] ++ [32, 32]).length = q := ⟨_, rfl⟩
                  rw [hq] at hv1
                  subst hv1
                  clear hr hg hb1 hr2 hg2 hb2 hq
                  go_wp2
                  go_roundw
                  case rel => exact ⟨i + 1, _, _, _, rfl, by go_num, by omega, H1.out.1, H1.out.2⟩
                  case measure => simp [intOf]; omega
              · have t3 : ((tn : Int) % 3 == 1) = false := by rw [beq_eq_false_iff_ne]; omega
                by_cases h2 : tn % 2 = 1
                · have t2 : (tn : Int) % 2 = 1 := by omega
                  have HO : Hid (oneS x tn = [32]) := by
                    show _ = _
                    have e : flip x tn = x := by unfold flip; rw [if_neg (fun h => by rw [hx32] at h; exact absurd h.2 (by decide))]
                    unfold oneS
                    rw [e, if_neg (fun h => h3 h.2), hx32]
                  have HV : Hid (nums [32] = [32]) := by
                    rfl
                  clear HXL
                  subst hx32
                  go_wp2_with (at_builtin; refine wpList_ap rfl (.tmp 73) (.tmp 75) 22 22 rfl .u8 5 1 Tryd.und8 Tryd.info8 (by decide) w.heap.size _ (nums O) rfl (HB.out.1.alloc _) _ [32] rfl (src_sl Tryd.und8 (new1 _)) (by have := HON.out; simp; omega) (by have := HB.out.2.size; simp; omega) ?_; intro v1 w3 hr hg)
                  have hb1 := hg.below (HB.out.1.alloc _) (by have := HB.out.2.size; simp; omega)
                  have H1 : Hid (Row .u8 5 w.heap.size w3 v1 (nums (outS (turnN tu) 0 (l.take (i + 1)))) ∧ Below w.heap.size w w3) := ⟨by rw [HNX.out, HO.out, nums_app, HV.out]; exact hr, (HB.out.2.alloc HB.out.2.size _).trans hb1⟩
                  obtain ⟨va, vc, hv1⟩ := hr.ne
                  obtain ⟨q, hq⟩ : ∃ q, (nums O ++ [32]).length = q := ⟨_, rfl⟩
                  rw [hq] at hv1
                  subst hv1
                  clear hr hg hb1 hq
                  go_wp2
                  go_roundw
                  case rel => exact ⟨i + 1, _, _, _, rfl, by go_num, by omega, H1.out.1, H1.out.2⟩
                  case measure => simp [intOf]; omega
                · have t2 : (tn : Int) % 2 = 0 := by omega
                  have HO : Hid (oneS x tn = [32]) := by
                    show _ = _
                    have e : flip x tn = x := by unfold flip; rw [if_neg (fun h => by rw [hx32] at h; exact absurd h.2 (by decide))]
                    unfold oneS
                    rw [e, if_neg (fun h => h3 h.2), hx32]
                  have HV : Hid (nums [32] = [32]) := by
                    rfl
                  clear HXL
                  subst hx32
                  go_wp2_with (at_builtin; refine wpList_ap rfl (.tmp 73) (.tmp 75) 22 22 rfl .u8 5 1 Tryd.und8 Tryd.info8 (by decide) w.heap.size _ (nums O) rfl (HB.out.1.alloc _) _ [32] rfl (src_sl Tryd.und8 (new1 _)) (by have := HON.out; simp; omega) (by have := HB.out.2.size; simp; omega) ?_; intro v1 w3 hr hg)
                  have hb1 := hg.below (HB.out.1.alloc _) (by have := HB.out.2.size; simp; omega)
                  have H1 : Hid (Row .u8 5 w.heap.size w3 v1 (nums (outS (turnN tu) 0 (l.take (i + 1)))) ∧ Below w.heap.size w w3) := ⟨by rw [HNX.out, HO.out, nums_app, HV.out]; exact hr, (HB.out.2.alloc HB.out.2.size _).trans hb1⟩
                  obtain ⟨va, vc, hv1⟩ := hr.ne
                  obtain ⟨q, hq⟩ : ∃ q, (nums O ++ [32]).length = q := ⟨_, rfl⟩
                  rw [hq] at hv1
                  subst hv1
                  clear hr hg hb1 hq
                  go_wp2
                  go_roundw
                  case rel => exact ⟨i + 1, _, _, _, rfl, by go_num, by omega, H1.out.1, H1.out.2⟩
                  case measure => simp [intOf]; omega
            · have x32 : ((x.toNat : Int) == 32) = false := by rw [beq_eq_false_iff_ne]; intro h; exact hx32 (u8_eq (by simp; omega))
              by_cases h2 : tn % 2 = 1
              · have t2 : (tn : Int) % 2 = 1 := by omega
                by_cases hl : letter x.toNat = true
                · have hL := HXL hl
                  have hxr : bits .xor .u8 (x.toNat : Int) 32 = ((x ^^^ 32).toNat : Int) := hL.2.2.2.2.2.2.2.2.symm
                  have HOq : Hid (oneS x tn = [x ^^^ 32]) := by
                    show _ = _
                    have e : flip x tn = x ^^^ 32 := by unfold flip; rw [if_pos ⟨h2, hl⟩]
                    unfold oneS
                    rw [e, if_neg (fun h => hL.2.1 h.1)]
                  have hy32 : ¬ (x ^^^ 32).toNat = 32 := fun h => hL.2.1 (u8_eq h)
                  obtain ⟨y, hy⟩ : ∃ y, x ^^^ 32 = y := ⟨_, rfl⟩
                  rw [hy] at hxr HOq hy32
                  have y256 : (y.toNat : Int) < 256 := by have := y.toNat_lt; omega
                  have y32 : ((y.toNat : Int) == 32) = false := by rw [beq_eq_false_iff_ne]; omega
                  have lcs : (65 ≤ x.toNat ∧ x.toNat ≤ 90) ∨ (97 ≤ x.toNat ∧ x.toNat ≤ 122) := by unfold letter at hl; exact of_decide_eq_true hl
                  clear hL hl hy hy32 HXL
                  rcases lcs with hc1 | hc1
                  · have k1 : (65 : Int) ≤ (x.toNat : Int) := by omega
                    have k2 : (x.toNat : Int) ≤ 90 := by omega
                    have HO : Hid (oneS x tn = [y]) := by
                      exact HOq.out
                    have HV : Hid (nums [y] = [(y.toNat : Int)]) := by
                      rfl
                    go_wp2_with (at_builtin; refine wpList_ap rfl (.tmp 73) (.tmp 75) 22 22 rfl .u8 5 1 Tryd.und8 Tryd.info8 (by decide) w.heap.size _ (nums O) rfl (HB.out.1.alloc _) _ [(y.toNat : Int)] rfl (src_sl Tryd.und8 (new1 _)) (by have := HON.out; simp; omega) (by have := HB.out.2.size; simp; omega) ?_; intro v1 w3 hr hg)
                    have hb1 := hg.below (HB.out.1.alloc _) (by have := HB.out.2.size; simp; omega)
                    have H1 : Hid (Row .u8 5 w.heap.size w3 v1 (nums (outS (turnN tu) 0 (l.take (i + 1)))) ∧ Below w.heap.size w w3) := ⟨by rw [HNX.out, HO.out, nums_app, HV.out]; exact hr, (HB.out.2.alloc HB.out.2.size _).trans hb1⟩
                    obtain ⟨va, vc, hv1⟩ := hr.ne
                    obtain ⟨q, hq⟩ : ∃ q, (nums O ++ [(y.toNat : Int)]).length = q := ⟨_, rfl⟩
                    rw [hq] at hv1
                    subst hv1
                    clear hr hg hb1 hq
                    go_wp2
                    go_roundw
                    case rel => exact ⟨i + 1, _, _, _, rfl, by go_num, by omega, H1.out.1, H1.out.2⟩
                    case measure => simp [intOf]; omega
                  · have k1 : (65 : Int) ≤ (x.toNat : Int) := by omega
                    have k2 : ¬ (x.toNat : Int) ≤ 90 := by omega
                    have k3 : (97 : Int) ≤ (x.toNat : Int) := by omega
                    have k4 : (x.toNat : Int) ≤ 122 := by omega
                    have HO : Hid (oneS x tn = [y]) := by
                      exact HOq.out
                    have HV : Hid (nums [y] = [(y.toNat : Int)]) := by
                      rfl
                    go_wp2_with (at_builtin; refine wpList_ap rfl (.tmp 73) (.tmp 75) 22 22 rfl .u8 5 1 Tryd.und8 Tryd.info8 (by decide) w.heap.size _ (nums O) rfl (HB.out.1.alloc _) _ [(y.toNat : Int)] rfl (src_sl Tryd.und8 (new1 _)) (by have := HON.out; simp; omega) (by have := HB.out.2.size; simp; omega) ?_; intro v1 w3 hr hg)
                    have hb1 := hg.below (HB.out.1.alloc _) (by have := HB.out.2.size; simp; omega)
                    have H1 : Hid (Row .u8 5 w.heap.size w3 v1 (nums (outS (turnN tu) 0 (l.take (i + 1)))) ∧ Below w.heap.size w w3) := ⟨by rw [HNX.out, HO.out, nums_app, HV.out]; exact hr, (HB.out.2.alloc HB.out.2.size _).trans hb1⟩
                    obtain ⟨va, vc, hv1⟩ := hr.ne
                    obtain ⟨q, hq⟩ : ∃ q, (nums O ++ [(y.toNat : Int)]).length = q := ⟨_, rfl⟩
                    rw [hq] at hv1
                    subst hv1
                    clear hr hg hb1 hq
                    go_wp2
                    go_roundw
                    case rel => exact ⟨i + 1, _, _, _, rfl, by go_num, by omega, H1.out.1, H1.out.2⟩
                    case measure => simp [intOf]; omega
                · have lcs : x.toNat < 65 ∨ (91 ≤ x.toNat ∧ x.toNat < 97) ∨ 123 ≤ x.toNat := by unfold letter at hl; simp at hl; omega
                  rcases lcs with hc1 | hc1 | hc1
                  · have k1 : ¬ (65 : Int) ≤ (x.toNat : Int) := by omega
                    have k3 : ¬ (97 : Int) ≤ (x.toNat : Int) := by omega
                    have HO : Hid (oneS x tn = [x]) := by
                      show _ = _
                      have e : flip x tn = x := by unfold flip; rw [if_neg (fun h => hl h.2)]
                      unfold oneS
                      rw [e, if_neg (fun h => hx32 h.1)]
                    have HV : Hid (nums [x] = [(x.toNat : Int)]) := by
                      rfl
                    clear HXL
                    go_wp2_with (at_builtin; refine wpList_ap rfl (.tmp 73) (.tmp 75) 22 22 rfl .u8 5 1 Tryd.und8 Tryd.info8 (by decide) w.heap.size _ (nums O) rfl (HB.out.1.alloc _) _ [(x.toNat : Int)] rfl (src_sl Tryd.und8 (new1 _)) (by have := HON.out; simp; omega) (by have := HB.out.2.size; simp; omega) ?_; intro v1 w3 hr hg)
                    have hb1 := hg.below (HB.out.1.alloc _) (by have := HB.out.2.size; simp; omega)
                    have H1 : Hid (Row .u8 5 w.heap.size w3 v1 (nums (outS (turnN tu) 0 (l.take (i + 1)))) ∧ Below w.heap.size w w3) := ⟨by rw [HNX.out, HO.out, nums_app, HV.out]; exact hr, (HB.out.2.alloc HB.out.2.size _).trans hb1⟩
                    obtain ⟨va, vc, hv1⟩ := hr.ne
                    obtain ⟨q, hq⟩ : ∃ q, (nums O ++ [(x.toNat : Int)]).length = q := ⟨_, rfl⟩
                    rw [hq] at hv1
                    subst hv1
                    clear hr hg hb1 hq
                    go_wp2
                    go_roundw
                    case rel => exact ⟨i + 1, _, _, _, rfl, by go_num, by omega, H1.out.1, H1.out.2⟩
                    case measure => simp [intOf]; omega
                  · have k1 : (65 : Int) ≤ (x.toNat : Int) := by omega
                    have k2 : ¬ (x.toNat : Int) ≤ 90 := by omega
                    have k3 : ¬ (97 : Int) ≤ (x.toNat : Int) := by omega
                    have HO : Hid (oneS x tn = [x]) := by
                      show _ = _
                      have e : flip x tn = x := by unfold flip; rw [if_neg (fun h => hl h.2)]
                      unfold oneS
                      rw [e, if_neg (fun h => hx32 h.1)]
                    have HV : Hid (nums [x] = [(x.toNat : Int)]) := by
                      rfl
                    clear HXL
                    go_wp2_with (at_builtin; refine wpList_ap rfl (.tmp 73) (.tmp 75) 22 22 rfl .u8 5 1 Tryd.und8 Tryd.info8 (by decide) w.heap.size _ (nums O) rfl (HB.out.1.alloc _) _ [(x.toNat : Int)] rfl (src_sl Tryd.und8 (new1 _)) (by have := HON.out; simp; omega) (by have := HB.out.2.size; simp; omega) ?_; intro v1 w3 hr hg)
                    have hb1 := hg.below (HB.out.1.alloc _) (by have := HB.out.2.size; simp; omega)
                    have H1 : Hid (Row .u8 5 w.heap.size w3 v1 (nums (outS (turnN tu) 0 (l.take (i + 1)))) ∧ Below w.heap.size w w3) := ⟨by rw [HNX.out, HO.out, nums_app, HV.out]; exact hr, (HB.out.2.alloc HB.out.2.size _).trans hb1⟩
                    obtain ⟨va, vc, hv1⟩ := hr.ne
                    obtain ⟨q, hq⟩ : ∃ q, (nums O ++ [(x.toNat : Int)]).length = q := ⟨_, rfl⟩
                    rw [hq] at hv1
                    subst hv1
                    clear hr hg hb1 hq
                    go_wp2
                    go_roundw
                    case rel => exact ⟨i + 1, _, _, _, rfl, by go_num, by omega, H1.out.1, H1.out.2⟩
                    case measure => simp [intOf]; omega
                  · have k1 : (65 : Int) ≤ (x.toNat : Int) := by omega
                    have k2 : ¬ (x.toNat : Int) ≤ 90 := by omega
                    have k3 : (97 : Int) ≤ (x.toNat : Int) := by omega
                    have k4 : ¬ (x.toNat : Int) ≤ 122 := by omega
                    have HO : Hid (oneS x tn = [x]) := by
                      show _ = _
                      have e : flip x tn = x := by unfold flip; rw [if_neg (fun h => hl h.2)]
                      unfold oneS
                      rw [e, if_neg (fun h => hx32 h.1)]
                    have HV : Hid (nums [x] = [(x.toNat : Int)]) := by
                      rfl
                    clear HXL
                    go_wp2_with (at_builtin; refine wpList_ap rfl (.tmp 73) (.tmp 75) 22 22 rfl .u8 5 1 Tryd.und8 Tryd.info8 (by decide) w.heap.size _ (nums O) rfl (HB.out.1.alloc _) _ [(x.toNat : Int)] rfl (src_sl Tryd.und8 (new1 _)) (by have := HON.out; simp; omega) (by have := HB.out.2.size; simp; omega) ?_; intro v1 w3 hr hg)
                    have hb1 := hg.below (HB.out.1.alloc _) (by have := HB.out.2.size; simp; omega)
                    have H1 : Hid (Row .u8 5 w.heap.size w3 v1 (nums (outS (turnN tu) 0 (l.take (i + 1)))) ∧ Below w.heap.size w w3) := ⟨by rw [HNX.out, HO.out, nums_app, HV.out]; exact hr, (HB.out.2.alloc HB.out.2.size _).trans hb1⟩
                    obtain ⟨va, vc, hv1⟩ := hr.ne
                    obtain ⟨q, hq⟩ : ∃ q, (nums O ++ [(x.toNat : Int)]).length = q := ⟨_, rfl⟩
                    rw [hq] at hv1
                    subst hv1
                    clear hr hg hb1 hq
                    go_wp2
                    go_roundw
                    case rel => exact ⟨i + 1, _, _, _, rfl, by go_num, by omega, H1.out.1, H1.out.2⟩
                    case measure => simp [intOf]; omega
              · have t2 : (tn : Int) % 2 = 0 := by omega
                have HO : Hid (oneS x tn = [x]) := by
                  show _ = _
                  have e : flip x tn = x := by unfold flip; rw [if_neg (fun h => h2 h.1)]
                  unfold oneS
                  rw [e, if_neg (fun h => hx32 h.1)]
                have HV : Hid (nums [x] = [(x.toNat : Int)]) := by
                  rfl
                clear HXL
                go_wp2_with (at_builtin; refine wpList_ap rfl (.tmp 73) (.tmp 75) 22 22 rfl .u8 5 1 Tryd.und8 Tryd.info8 (by decide) w.heap.size _ (nums O) rfl (HB.out.1.alloc _) _ [(x.toNat : Int)] rfl (src_sl Tryd.und8 (new1 _)) (by have := HON.out; simp; omega) (by have := HB.out.2.size; simp; omega) ?_; intro v1 w3 hr hg)
                have hb1 := hg.below (HB.out.1.alloc _) (by have := HB.out.2.size; simp; omega)
                have H1 : Hid (Row .u8 5 w.heap.size w3 v1 (nums (outS (turnN tu) 0 (l.take (i + 1)))) ∧ Below w.heap.size w w3) := ⟨by rw [HNX.out, HO.out, nums_app, HV.out]; exact hr, (HB.out.2.alloc HB.out.2.size _).trans hb1⟩
                obtain ⟨va, vc, hv1⟩ := hr.ne
                obtain ⟨q, hq⟩ : ∃ q, (nums O ++ [(x.toNat : Int)]).length = q := ⟨_, rfl⟩
                rw [hq] at hv1
                subst hv1
                clear hr hg hb1 hq
                go_wp2
                go_roundw
                case rel => exact ⟨i + 1, _, _, _, rfl, by go_num, by omega, H1.out.1, H1.out.2⟩
                case measure => simp [intOf]; omega
        · have hin : l.take i = l := List.take_of_length_le (by rw [HN.out]; omega)
          rw [hin] at HB HON
          have z1 : ¬ (i : Int) < (n : Int) := by omega
          clear hin
          have fin : ∀ (W : World) (y : Value), Sl .u8 W y (nums (wrapS (outS (turnN tu) 0 l))) → Below w.heap.size w W → (∃ p q s, y = .slice p q s) := fun W y hy _ => by obtain ⟨p, s, e, _⟩ := hy; exact ⟨p, _, s, e⟩
          by_cases hemp : outS (turnN tu) 0 l = []
          · have HEmp : Hid (outS (turnN tu) 0 l = []) := hemp
            rw [hemp] at HON
            have on0 : on = 0 := by rw [HON.out.1]; rfl
            subst on0
            have hsrc : ∀ o, Src Tryd.prog 1 22 (.slice oa 0 oc) 0 [] (wr.alloc o) := fun o => by
              have := src_sl Tryd.und8 (sl_alloc HB.out.1.sl o)
              rw [hemp] at this
              exact this
            have HSRC : Hid _ := hsrc
            clear hemp hsrc fin
            go_wp2_with (first
              | (at_builtin; replace hmark := hmark; refine wpList_full rfl (.tmp 90) (.const (.string ⟨#[32, 32]⟩)) 22 9 rfl .u8 5 1 Tryd.und8 Tryd.info8 (by decide) w.heap.size wr.heap.size 0 1 [32] rfl rfl (rd_new32 wr) _ [32, 32] rfl (src_two _) (by decide) (by decide) (by have := HB.out.2.size; simp; omega) ?_; intro v1 w3 hr hb1)
              | (at_builtin; refine wpList_none rfl (.tmp 88) (.tmp 89) 22 22 rfl .u8 5 1 Tryd.und8 Tryd.info8 wr.heap.size 0 1 rfl _ rfl (HSRC.out _) ?_; have hmark : True := trivial))
            have H3 : Hid (Sl .u8 w3 v1 (nums (wrapS (outS (turnN tu) 0 l))) ∧ Below w.heap.size w w3) := ⟨by rw [HEmp.out]; exact hr.sl, below_via (al2' (o := .cells #[.int .u8 32] 5 (1, 2)) HB.out.2) hb1 (Nat.le_refl _)⟩
            obtain ⟨va, vc, hv1⟩ := hr.ne
            subst hv1
            clear hr hb1 hmark
            go_wp2_with fail
            refine (HKD.out _ H3.out.2).mono ?_
            rintro e w5 ⟨rfl, hb'⟩
            have H5 : Hid (Below w.heap.size w w5 ∧ Sl .u8 w5 _ (nums (wrapS (outS (turnN tu) 0 l)))) := ⟨below_via H3.out.2 hb' (Nat.le_refl _), below_sl hb' H3.out.1⟩
            clear hb'
            go_wp2_with fail
            refine (HKO.out _ _ H5.out.1 H5.out.2).mono ?_
            rintro e w6 ⟨rfl, hb'⟩
            have H6 : Hid (Below w.heap.size w w6 ∧ Sl .u8 w6 _ (nums (wrapS (outS (turnN tu) 0 l)))) := ⟨below_via H5.out.1 hb' (Nat.le_refl _), below_sl hb' H5.out.2⟩
            clear hb'
            go_wp2_with fail
            refine (HAO.out _ _ H6.out.1 H6.out.2).mono ?_
            rintro e w7 ⟨rfl, hb'⟩
            have H7 : Hid (Below w.heap.size w w7) := below_via H6.out.1 hb' (Nat.le_refl _)
            clear hb'
            go_wp2_with fail
            refine (live_t (HT.out.below H7.out)).mono ?_
            rintro e w8 ⟨rfl, hb'⟩
            have H8 : Hid (Below w.heap.size w w8) := below_via H7.out hb' (Nat.le_refl _)
            clear hb'
            go_wp2
            go_ret
            exact ⟨rfl, H8.out⟩
          · have HNe : Hid (nums (outS (turnN tu) 0 l) ≠ []) := fun h => hemp (by have := congrArg List.length h; rw [nums_len] at this; exact List.eq_nil_of_length_eq_zero this)
            have HSRC : Hid (∀ o, Src Tryd.prog 1 22 (.slice oa on oc) (nums (outS (turnN tu) 0 l)).length ((nums (outS (turnN tu) 0 l)).map (Value.int .u8)) (wr.alloc o)) := fun o => src_sl Tryd.und8 (sl_alloc HB.out.1.sl o)
            clear hemp fin
            go_wp2_with (first
              | (at_builtin; replace hr := hr; refine wpList_ap rfl (.tmp 90) (.const (.string ⟨#[32, 32]⟩)) 22 9 rfl .u8 5 1 Tryd.und8 Tryd.info8 (by decide) w.heap.size _ _ rfl hr _ [32, 32] rfl (src_two _) (by have := HON.out; simp; omega) hb3.size ?_; intro v2 w4 hr2 hg2)
              | (at_builtin; refine wpList_full rfl (.tmp 88) (.tmp 89) 22 22 rfl .u8 5 1 Tryd.und8 Tryd.info8 (by decide) w.heap.size wr.heap.size 0 1 [32] rfl rfl (rd_new32 wr) _ (nums (outS (turnN tu) 0 l)) rfl (HSRC.out _) HNe.out (by have := HON.out; simp; omega) (by have := HB.out.2.size; simp; omega) ?_; intro v1 w3 hr hb1; have hb3 : Below w.heap.size w w3 := below_via (al2' (o := .cells #[.int .u8 32] 5 (1, 2)) HB.out.2) hb1 (Nat.le_refl _)))
            have hb4 := hb3.trans (hg2.below hr hb3.size)
            have H3 : Hid (Sl .u8 w4 v2 (nums (wrapS (outS (turnN tu) 0 l))) ∧ Below w.heap.size w w4) := ⟨by unfold wrapS; have := hr2.sl; rw [List.append_assoc] at this; rw [show nums (32 :: (outS (turnN tu) 0 l ++ [32, 32])) = [32] ++ (nums (outS (turnN tu) 0 l) ++ [32, 32]) by simp [nums]]; exact this, hb4⟩
            obtain ⟨va, vc, hv1⟩ := hr2.ne
            obtain ⟨q, hq⟩ : ∃ q, ([32] ++ nums (outS (turnN tu) 0 l) ++ [32, 32]).length = q := ⟨_, rfl⟩
            rw [hq] at hv1
            subst hv1
            clear hr hb1 hb3 hb4 hr2 hg2 hq
            go_wp2_with fail
            refine (HKD.out _ H3.out.2).mono ?_
            rintro e w5 ⟨rfl, hb'⟩
            have H5 : Hid (Below w.heap.size w w5 ∧ Sl .u8 w5 _ (nums (wrapS (outS (turnN tu) 0 l)))) := ⟨below_via H3.out.2 hb' (Nat.le_refl _), below_sl hb' H3.out.1⟩
            clear hb'
            go_wp2_with fail
            refine (HKO.out _ _ H5.out.1 H5.out.2).mono ?_
            rintro e w6 ⟨rfl, hb'⟩
            have H6 : Hid (Below w.heap.size w w6 ∧ Sl .u8 w6 _ (nums (wrapS (outS (turnN tu) 0 l)))) := ⟨below_via H5.out.1 hb' (Nat.le_refl _), below_sl hb' H5.out.2⟩
            clear hb'
            go_wp2_with fail
            refine (HAO.out _ _ H6.out.1 H6.out.2).mono ?_
            rintro e w7 ⟨rfl, hb'⟩
            have H7 : Hid (Below w.heap.size w w7) := below_via H6.out.1 hb' (Nat.le_refl _)
            clear hb'
            go_wp2_with fail
            refine (live_t (HT.out.below H7.out)).mono ?_
            rintro e w8 ⟨rfl, hb'⟩
            have H8 : Hid (Below w.heap.size w w8) := below_via H7.out hb' (Nat.le_refl _)
            clear hb'
            go_wp2
            go_ret
            exact ⟨rfl, H8.out⟩
    · have n1 : (E1 != 0) = true := by simp [e1]
      clear HE1 e1
      go_enter Tryd.func7, Tryd.ntmps7
      go_wp2_with fail
      refine (HT1.out _ (Below.refl _ _)).mono ?_
      rintro e w2 ⟨rfl, hb⟩
      go_wp2_with (go_at_call 13; refine (num_any _).mono ?_; rintro e w' ⟨rfl, rfl⟩)
      refine (live_t (HT.out.below hb)).mono ?_
      rintro e w5 ⟨rfl, hb'⟩
      have H5 : Hid (Below w.heap.size w w5) := below_via hb hb' (Nat.le_refl _)
      clear hb hb'
      go_wp2
      go_ret
      exact ⟨rfl, H5.out⟩
  · have cs : (2000 : Int) < (n : Int) ∨ (¬ (2000 : Int) < (n : Int) ∧ tag = 30) := by omega
    clear hbig
    rcases cs with b1 | ⟨b1, rfl⟩
    all_goals
      go_enter Tryd.func7, Tryd.ntmps7
      go_wp2_with fail
      refine (live_t HT.out).mono ?_
      rintro e w1 ⟨rfl, hb⟩
      go_wp2
      go_ret
      exact ⟨rfl, hb⟩
end Go.Proofs.YtonekkfpadgdhaaDoor
