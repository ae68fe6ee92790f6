/-
  Realm: Allowed, at one name that is a host and one that is permitted.
-/
import Derived.Test.YtljgbdmcdaoknaaDoorK10
namespace Go.Proofs.YtljgbdmcdaoknaaDoor
open Go.RowKit
attribute [local go_sem] Oper.semAt_some run_store_func
set_option maxHeartbeats 1000000 in
theorem ruled_any {w : World} (a : Option Addr) (n c : Nat) : Calls Tryd.prog 14 #[.slice a n c] w fun e w' => e = .returned (.func (.func 22) #[] #[.pointer (some ⟨w.heap.size, 0, none⟩)]) ∧ w' = w.alloc (.cells #[.slice a n c] 25) := by
  go_enter Tryd.func14, Tryd.ntmps14
  go_wp2
  go_ret
  exact ⟨by simp, rfl⟩
/-- What Allowed has in memory. -/
def AI (w : World) (g bn bp : Nat) (N M : List Value) (W : World) : Prop :=
  g + 4 ≤ W.heap.size ∧ Blk 25 W g [.slice (some ⟨bp, 0, none⟩) 1 1] ∧ Blk 25 W (g + 1) [.slice none 0 0] ∧ Blk 4 W (g + 2) [.bool false] ∧ Blk 25 W (g + 3) [.slice (some ⟨bn, 0, none⟩) 1 1] ∧ Blk 28 W bn N ∧ Blk 28 W bp M ∧ Below g w W
theorem AI.below {w : World} {g bn bp : Nat} {N M : List Value} {W W' : World} (h : AI w g bn bp N M W) (hb : Below W.heap.size W W') : AI w g bn bp N M W' :=
  ⟨Nat.le_trans h.1 hb.size, below_blk hb h.2.1.lt h.2.1, below_blk hb h.2.2.1.lt h.2.2.1, below_blk hb h.2.2.2.1.lt h.2.2.2.1, below_blk hb h.2.2.2.2.1.lt h.2.2.2.2.1, below_blk hb h.2.2.2.2.2.1.lt h.2.2.2.2.2.1, below_blk hb h.2.2.2.2.2.2.1.lt h.2.2.2.2.2.2.1, h.2.2.2.2.2.2.2.trans (hb.mono (by have := h.1; omega))⟩
theorem blk_ne {A : World} {T : TypeId} {b k : Nat} {cs : List Value} {o : Obj} (h : Blk T A b cs) (ho : A.heap[k]? = some o) (hc : o.isCells = false) : b ≠ k := by
  rintro rfl
  unfold Blk at h
  rw [h] at ho
  cases ho
  cases hc
theorem AI.put {w : World} {g bn bp : Nat} {N M : List Value} {A : World} (h : AI w g bn bp N M A) {k : Nat} {o : Obj} (o' : Obj) (hk : g ≤ k) (ho : A.heap[k]? = some o) (hc : o.isCells = false) : AI w g bn bp N M (A.putObj k o') :=
  ⟨by simpa [World.putObj] using h.1, blk_put o' (blk_ne h.2.1 ho hc) h.2.1, blk_put o' (blk_ne h.2.2.1 ho hc) h.2.2.1, blk_put o' (blk_ne h.2.2.2.1 ho hc) h.2.2.2.1, blk_put o' (blk_ne h.2.2.2.2.1 ho hc) h.2.2.2.2.1, blk_put o' (blk_ne h.2.2.2.2.2.1 ho hc) h.2.2.2.2.2.1, blk_put o' (blk_ne h.2.2.2.2.2.2.1 ho hc) h.2.2.2.2.2.2.1, below_putW' o' hk h.2.2.2.2.2.2.2⟩
theorem kept_below {B : Nat} {A A' : World} (h : Below A.heap.size A A') : Kept B A A' := ⟨h.size, fun k _ hlt => h.block k hlt⟩
set_option maxRecDepth 20000 in
set_option maxHeartbeats 8000000 in
theorem Allowed2_any {w : World} (X Y : List Int) (uX : U8s X) (uY : U8s Y) (lX : X.length ≤ 1125899906842624) (lY : Y.length ≤ 1125899906842624) (kb : Int) (a1 a2 d1 d2 : Option Addr) (n1 c1 n2 c2 m1 e1 m2 e2 bn bp : Nat) (hbn : Blk 28 w bn (gen 2 X a1 d1 n1 c1 m1 e1)) (hbp : Blk 28 w bp (gen kb Y a2 d2 n2 c2 m2 e2)) :
    Calls Tryd.prog 9 #[.slice (some ⟨bn, 0, none⟩) 1 1, .slice (some ⟨bp, 0, none⟩) 1 1, .slice none 0 0] w fun e w' => e = .returned (.bool (!decide (kb = 2) || hostB X Y)) ∧ Below w.heap.size w w' := by
  obtain ⟨R, hR⟩ : ∃ R, (!decide (kb = 2) || hostB X Y) = R := ⟨_, rfl⟩
  obtain ⟨g, hg⟩ : ∃ g, w.heap.size = g := ⟨_, rfl⟩
  have HR : Hid ((!decide (kb = 2) || hostB X Y) = R) := hR
  rw [hR, hg]
  have HX : Hid (U8s X ∧ U8s Y ∧ X.length ≤ 1125899906842624 ∧ Y.length ≤ 1125899906842624 ∧ bn < g ∧ bp < g) := ⟨uX, uY, lX, lY, hg ▸ hbn.lt, hg ▸ hbp.lt⟩
  have HB : Hid (Blk 28 w bn (gen 2 X a1 d1 n1 c1 m1 e1) ∧ Blk 28 w bp (gen kb Y a2 d2 n2 c2 m2 e2)) := ⟨hbn, hbp⟩
  clear hR uX uY lX lY hbn hbp
  refine (callsIn_wide (n := 10)).1 (callsIn_of_wp_marks Tryd.func9 rfl trivial (wpIn_wide.2 ?_) rfl)
  simp only [Tryd.ntmps9, List.size_toArray, List.length_cons, List.length_nil, Nat.reduceAdd, Nat.reduceSub, Array.replicate_succ, Array.replicate_zero, List.push_toArray, List.append_toArray, List.nil_append, List.cons_append]
  go_wp2_with (go_at_call 14; refine (ruled_any _ _ _).mono ?_; rintro e w1 ⟨rfl, rfl⟩)
  try simp only [World.size_alloc, hg]
  refine wp_gen (fun W => W.heap.size = g + 4 ∧ AI w g bn bp (gen 2 X a1 d1 n1 c1 m1 e1) (gen kb Y a2 d2 n2 c2 m2 e2) W) ?_ ?_
  · have k0 := (((Blk.new 25 w [.slice (some ⟨bp, 0, none⟩) 1 1]).alloc (.cells #[.slice none 0 0] 25)).alloc (.cells #[.bool false] 4)).alloc (.cells #[.slice (some ⟨bn, 0, none⟩) 1 1] 25)
    have k1 := ((Blk.new 25 (w.alloc (.cells #[.slice (some ⟨bp, 0, none⟩) 1 1] 25)) [.slice none 0 0]).alloc (.cells #[.bool false] 4)).alloc (.cells #[.slice (some ⟨bn, 0, none⟩) 1 1] 25)
    have k2 := (Blk.new 4 ((w.alloc (.cells #[.slice (some ⟨bp, 0, none⟩) 1 1] 25)).alloc (.cells #[.slice none 0 0] 25)) [.bool false]).alloc (.cells #[.slice (some ⟨bn, 0, none⟩) 1 1] 25)
    have k3 := Blk.new 25 (((w.alloc (.cells #[.slice (some ⟨bp, 0, none⟩) 1 1] 25)).alloc (.cells #[.slice none 0 0] 25)).alloc (.cells #[.bool false] 4)) [.slice (some ⟨bn, 0, none⟩) 1 1]
    have hb1 := al1 (w := w) (.cells #[.slice (some ⟨bp, 0, none⟩) 1 1] 25)
    have hb2 := hb1.alloc hb1.size (.cells #[.slice none 0 0] 25)
    have hb3 := hb2.alloc hb2.size (.cells #[.bool false] 4)
    have hb4 := hb3.alloc hb3.size (.cells #[.slice (some ⟨bn, 0, none⟩) 1 1] 25)
    have j1 := below_blk hb4 HB.out.1.lt HB.out.1
    have j2 := below_blk hb4 HB.out.2.lt HB.out.2
    simp only [World.size_alloc, hg] at k0 k1 k2 k3 hb4
    exact ⟨by simp [hg], by simp [hg], k0, k1, k2, k3, j1, j2, hb4⟩
  rintro V ⟨hVs, hVI⟩
  have HV : Hid (AI w g bn bp (gen 2 X a1 d1 n1 c1 m1 e1) (gen kb Y a2 d2 n2 c2 m2 e2) V) := hVI
  clear hVI
  refine (wpIn_wide (n := 10)).1 ?_
  refine range_lay (n := 5) (N := 1) (gf := 22) (lb := #[.pointer (some ⟨g + 3, 0, none⟩)]) (by simp [Act.eval]) (enters_of Tryd.func22 (by kernel_rfl) rfl)
    (fun i A => AI w g bn bp (gen 2 X a1 d1 n1 c1 m1 e1) (gen kb Y a2 d2 n2 c2 m2 e2) A ∧ (i = 1 → R = true)) (fun c A => c = .ret ∧ (Blk 4 A (g + 2) [.bool false] ∧ Below g w A) ∧ R = false) (fun i v _ => v = #[.agg #[.int .i64 2, .string (strOfNums X), .slice a1 n1 c1, .slice d1 m1 e1], .agg #[.int .i64 2, .func (.func 29) #[] #[]]])
    ?_ ?_ ?_ ?_ ?_ ?_ (fun i b A => ∃ h k, b = { tmps := #[.slice (some ⟨bn, 0, none⟩) 1 1, .slice (some ⟨bp, 0, none⟩) 1 1, .slice none 0 0, undef, .pointer (some ⟨g, 0, none⟩), .pointer (some ⟨g + 1, 0, none⟩), .pointer (some ⟨g + 2, 0, none⟩), .pointer (some ⟨h, 0, none⟩), .pointer (some ⟨k, 0, none⟩), .slice (some ⟨bn, 0, none⟩) 1 1, .func (.func 22) #[] #[.pointer (some ⟨g + 3, 0, none⟩)], .agg #[.int .i64 2, .string (strOfNums X), .slice a1 n1 c1, .slice d1 m1 e1], .agg #[.int .i64 2, .func (.func 29) #[] #[]], undef, undef, undef, undef, undef, undef, undef, undef, undef, undef, undef, undef, undef, undef], defers := [] } ∧ AI w g bn bp (gen 2 X a1 d1 n1 c1 m1 e1) (gen kb Y a2 d2 n2 c2 m2 e2) A ∧ Blk 28 A h [.int .i64 2, .string (strOfNums X), .slice a1 n1 c1, .slice d1 m1 e1] ∧ Blk 42 A k [.int .i64 2, .func (.func 29) #[] #[]]) ?_ ?_ ?_ ?_ ?_
  · rintro i v A rfl; rfl
  · rintro i A A' ⟨h1, h2⟩ hb
    exact ⟨h1.below hb, h2⟩
  · rintro i A k o o' hk ho hc hwk ⟨h1, h2⟩
    exact ⟨h1.put o' (by omega) ho hc, h2⟩
  · rintro c A k o o' hk ho hc hwk ⟨rfl, ⟨h1, h6⟩, hr⟩
    exact ⟨rfl, ⟨blk_put o' (by omega) h1, below_putW' o' (by omega) h6⟩, hr⟩
  · intro l W1 J Jx hs1 hb1 h0 hJI hJb hY
    exact ruled1_any l (g + 3) bn X a1 d1 n1 c1 m1 e1 5 J Jx (fun i A hJ => ⟨(hJI i A hJ).1.2.2.2.2.1.cell 0, (hJI i A hJ).1.2.2.2.2.2.1⟩) hJb W1 h0 (fun A hJ hsz => hY 0 _ A (by omega) hJ hsz rfl)
  · exact ⟨HV.out, fun e => by omega⟩
  · rintro i b A k o o' hk ho hc hwk ⟨h, k', rfl, h1, h2, h3⟩
    exact ⟨h, k', rfl, h1.put o' (by omega) ho hc, blk_put o' (blk_ne h2 ho hc) h2, blk_put o' (blk_ne h3 ho hc) h3⟩
  · rintro l i v A K hi hI hsA rfl hK
    gi_wp2
    have b1 := al1 (w := A) (.cells #[.int .i64 2, .string (strOfNums X), .slice a1 n1 c1, .slice d1 m1 e1] 28)
    have b2 := b1.alloc b1.size (.cells #[.int .i64 2, .func (.func 29) #[] #[]] 42)
    have k1 := (Blk.new 28 A [.int .i64 2, .string (strOfNums X), .slice a1 n1 c1, .slice d1 m1 e1]).alloc (.cells #[.int .i64 2, .func (.func 29) #[] #[]] 42)
    have k2 := Blk.new 42 (A.alloc (.cells #[.int .i64 2, .string (strOfNums X), .slice a1 n1 c1, .slice d1 m1 e1] 28)) [.int .i64 2, .func (.func 29) #[] #[]]
    simp only [World.size_alloc] at k2
    exact hK _ _ (kept_below b2) ⟨A.heap.size, A.heap.size + 1, rfl, hI.1.below b2, k1, k2⟩
  · rintro l i b A hi hsA ⟨h, k, rfl, hAI, hh, hk⟩
    have HM0 : Hid (∀ W : World, Calls Tryd.prog 15 #[.agg #[.int .i64 2, .func (.func 29) #[] #[]], .agg #[.int .i64 2, .string (strOfNums X), .slice a1 n1 c1, .slice d1 m1 e1], .slice none 0 0] W fun e w' => e = .returned (.bool false) ∧ Below W.heap.size W w') := fun W => matches0_any 2 2 X a1 d1 n1 c1 m1 e1
    have HMB : Hid (∀ W : World, Blk 28 W bp (gen kb Y a2 d2 n2 c2 m2 e2) → Calls Tryd.prog 16 #[.agg #[.int .i64 2, .func (.func 29) #[] #[]], .slice (some ⟨bp, 0, none⟩) 1 1] W fun e w' => e = .returned (.bool (decide (kb = 2))) ∧ Below W.heap.size W w') := fun W hB => bounds1_any 2 kb Y a2 d2 n2 c2 m2 e2 bp hB
    have HM1 : Hid (∀ W : World, Blk 28 W bp (gen kb Y a2 d2 n2 c2 m2 e2) → Calls Tryd.prog 15 #[.agg #[.int .i64 2, .func (.func 29) #[] #[]], .agg #[.int .i64 2, .string (strOfNums X), .slice a1 n1 c1, .slice d1 m1 e1], .slice (some ⟨bp, 0, none⟩) 1 1] W fun e w' => e = .returned (.bool (decide (kb = 2) && hostB X Y)) ∧ Below W.heap.size W w') := fun W hB => matches1_any 2 2 kb X Y HX.out.1 HX.out.2.1 HX.out.2.2.1 HX.out.2.2.2.1 a1 a2 d1 d2 n1 c1 n2 c2 m1 e1 m2 e2 bp hB
    have HZA : Hid (AI w g bn bp (gen 2 X a1 d1 n1 c1 m1 e1) (gen kb Y a2 d2 n2 c2 m2 e2) A ∧ Blk 28 A h [.int .i64 2, .string (strOfNums X), .slice a1 n1 c1, .slice d1 m1 e1] ∧ Blk 42 A k [.int .i64 2, .func (.func 29) #[] #[]] ∧ Below A.heap.size A A) := ⟨hAI, hh, hk, Below.refl _ _⟩; have zAg : A.cell? ⟨g, 0, none⟩ = some (.slice (some ⟨bp, 0, none⟩) 1 1) := HZA.out.1.2.1.cell 0; have zAe : A.cell? ⟨g + 1, 0, none⟩ = some (.slice none 0 0) := HZA.out.1.2.2.1.cell 0; have zA0 : A.cell? ⟨h, 0, none⟩ = some (.int .i64 2) := HZA.out.2.1.cell 0; have zA1 : A.cell? ⟨h, 1, none⟩ = some (.string (strOfNums X)) := HZA.out.2.1.cell 1; have zA2 : A.cell? ⟨h, 2, none⟩ = some (.slice a1 n1 c1) := HZA.out.2.1.cell 2; have zA3 : A.cell? ⟨h, 3, none⟩ = some (.slice d1 m1 e1) := HZA.out.2.1.cell 3; have zA4 : A.cell? ⟨k, 0, none⟩ = some (.int .i64 2) := HZA.out.2.2.1.cell 0; have zA5 : A.cell? ⟨k, 1, none⟩ = some (.func (.func 29) #[] #[]) := HZA.out.2.2.1.cell 1
    clear hAI hh hk
    obtain ⟨D, hD⟩ : ∃ D, decide (kb = 2) = D := ⟨_, rfl⟩
    obtain ⟨T, hT⟩ : ∃ T, hostB X Y = T := ⟨_, rfl⟩
    have HRR : Hid ((!D || T) = R) := hD ▸ hT ▸ HR.out
    simp only [hD] at HMB HM1
    simp only [hT] at HM1
    clear hD hT HR HX HB HV
    cases D with
    | false =>
      obtain rfl : R = true := HRR.out.symm
      gi_wp2
      refine ⟨trivial, ?_⟩
      refine (CallsIn.inRound l (callsIn_wide.2 (HM0.out A))).mono ?_
      rintro e A1 ⟨rfl, hb1⟩
      have HZA1 : Hid (AI w g bn bp (gen 2 X a1 d1 n1 c1 m1 e1) (gen kb Y a2 d2 n2 c2 m2 e2) A1 ∧ Blk 28 A1 h [.int .i64 2, .string (strOfNums X), .slice a1 n1 c1, .slice d1 m1 e1] ∧ Blk 42 A1 k [.int .i64 2, .func (.func 29) #[] #[]] ∧ Below A.heap.size A A1) := ⟨HZA.out.1.below hb1, below_blk hb1 HZA.out.2.1.lt HZA.out.2.1, below_blk hb1 HZA.out.2.2.1.lt HZA.out.2.2.1, HZA.out.2.2.2.trans (hb1.mono HZA.out.2.2.2.size)⟩
      have zA1g : A1.cell? ⟨g, 0, none⟩ = some (.slice (some ⟨bp, 0, none⟩) 1 1) := HZA1.out.1.2.1.cell 0
      have zA1e : A1.cell? ⟨g + 1, 0, none⟩ = some (.slice none 0 0) := HZA1.out.1.2.2.1.cell 0
      have zA10 : A1.cell? ⟨h, 0, none⟩ = some (.int .i64 2) := HZA1.out.2.1.cell 0
      have zA11 : A1.cell? ⟨h, 1, none⟩ = some (.string (strOfNums X)) := HZA1.out.2.1.cell 1
      have zA12 : A1.cell? ⟨h, 2, none⟩ = some (.slice a1 n1 c1) := HZA1.out.2.1.cell 2
      have zA13 : A1.cell? ⟨h, 3, none⟩ = some (.slice d1 m1 e1) := HZA1.out.2.1.cell 3
      have zA14 : A1.cell? ⟨k, 0, none⟩ = some (.int .i64 2) := HZA1.out.2.2.1.cell 0
      have zA15 : A1.cell? ⟨k, 1, none⟩ = some (.func (.func 29) #[] #[]) := HZA1.out.2.2.1.cell 1
      clear hb1
      gi_wp2
      refine ⟨trivial, ?_⟩
      refine (CallsIn.inRound l (callsIn_wide.2 (HMB.out A1 HZA1.out.1.2.2.2.2.2.2.1))).mono ?_
      rintro e A2 ⟨rfl, hb2⟩
      have HZA2 : Hid (AI w g bn bp (gen 2 X a1 d1 n1 c1 m1 e1) (gen kb Y a2 d2 n2 c2 m2 e2) A2 ∧ Blk 28 A2 h [.int .i64 2, .string (strOfNums X), .slice a1 n1 c1, .slice d1 m1 e1] ∧ Blk 42 A2 k [.int .i64 2, .func (.func 29) #[] #[]] ∧ Below A.heap.size A A2) := ⟨HZA1.out.1.below hb2, below_blk hb2 HZA1.out.2.1.lt HZA1.out.2.1, below_blk hb2 HZA1.out.2.2.1.lt HZA1.out.2.2.1, HZA1.out.2.2.2.trans (hb2.mono HZA1.out.2.2.2.size)⟩
      have zA2g : A2.cell? ⟨g, 0, none⟩ = some (.slice (some ⟨bp, 0, none⟩) 1 1) := HZA2.out.1.2.1.cell 0
      have zA2e : A2.cell? ⟨g + 1, 0, none⟩ = some (.slice none 0 0) := HZA2.out.1.2.2.1.cell 0
      have zA20 : A2.cell? ⟨h, 0, none⟩ = some (.int .i64 2) := HZA2.out.2.1.cell 0
      have zA21 : A2.cell? ⟨h, 1, none⟩ = some (.string (strOfNums X)) := HZA2.out.2.1.cell 1
      have zA22 : A2.cell? ⟨h, 2, none⟩ = some (.slice a1 n1 c1) := HZA2.out.2.1.cell 2
      have zA23 : A2.cell? ⟨h, 3, none⟩ = some (.slice d1 m1 e1) := HZA2.out.2.1.cell 3
      have zA24 : A2.cell? ⟨k, 0, none⟩ = some (.int .i64 2) := HZA2.out.2.2.1.cell 0
      have zA25 : A2.cell? ⟨k, 1, none⟩ = some (.func (.func 29) #[] #[]) := HZA2.out.2.2.1.cell 1
      clear hb2
      gi_wp2
      refine ⟨trivial, ?_⟩
      gi_wp2
      exact ⟨kept_below HZA2.out.2.2.2, HZA2.out.1⟩
    | true =>
      simp only [Bool.true_and] at HM1
      cases T with
      | true =>
        obtain rfl : R = true := HRR.out.symm
        gi_wp2
        refine ⟨trivial, ?_⟩
        refine (CallsIn.inRound l (callsIn_wide.2 (HM0.out A))).mono ?_
        rintro e A1 ⟨rfl, hb1⟩
        have HZA1 : Hid (AI w g bn bp (gen 2 X a1 d1 n1 c1 m1 e1) (gen kb Y a2 d2 n2 c2 m2 e2) A1 ∧ Blk 28 A1 h [.int .i64 2, .string (strOfNums X), .slice a1 n1 c1, .slice d1 m1 e1] ∧ Blk 42 A1 k [.int .i64 2, .func (.func 29) #[] #[]] ∧ Below A.heap.size A A1) := ⟨HZA.out.1.below hb1, below_blk hb1 HZA.out.2.1.lt HZA.out.2.1, below_blk hb1 HZA.out.2.2.1.lt HZA.out.2.2.1, HZA.out.2.2.2.trans (hb1.mono HZA.out.2.2.2.size)⟩
        have zA1g : A1.cell? ⟨g, 0, none⟩ = some (.slice (some ⟨bp, 0, none⟩) 1 1) := HZA1.out.1.2.1.cell 0
        have zA1e : A1.cell? ⟨g + 1, 0, none⟩ = some (.slice none 0 0) := HZA1.out.1.2.2.1.cell 0
        have zA10 : A1.cell? ⟨h, 0, none⟩ = some (.int .i64 2) := HZA1.out.2.1.cell 0
        have zA11 : A1.cell? ⟨h, 1, none⟩ = some (.string (strOfNums X)) := HZA1.out.2.1.cell 1
        have zA12 : A1.cell? ⟨h, 2, none⟩ = some (.slice a1 n1 c1) := HZA1.out.2.1.cell 2
        have zA13 : A1.cell? ⟨h, 3, none⟩ = some (.slice d1 m1 e1) := HZA1.out.2.1.cell 3
        have zA14 : A1.cell? ⟨k, 0, none⟩ = some (.int .i64 2) := HZA1.out.2.2.1.cell 0
        have zA15 : A1.cell? ⟨k, 1, none⟩ = some (.func (.func 29) #[] #[]) := HZA1.out.2.2.1.cell 1
        clear hb1
        gi_wp2
        refine ⟨trivial, ?_⟩
        refine (CallsIn.inRound l (callsIn_wide.2 (HMB.out A1 HZA1.out.1.2.2.2.2.2.2.1))).mono ?_
        rintro e A2 ⟨rfl, hb2⟩
        have HZA2 : Hid (AI w g bn bp (gen 2 X a1 d1 n1 c1 m1 e1) (gen kb Y a2 d2 n2 c2 m2 e2) A2 ∧ Blk 28 A2 h [.int .i64 2, .string (strOfNums X), .slice a1 n1 c1, .slice d1 m1 e1] ∧ Blk 42 A2 k [.int .i64 2, .func (.func 29) #[] #[]] ∧ Below A.heap.size A A2) := ⟨HZA1.out.1.below hb2, below_blk hb2 HZA1.out.2.1.lt HZA1.out.2.1, below_blk hb2 HZA1.out.2.2.1.lt HZA1.out.2.2.1, HZA1.out.2.2.2.trans (hb2.mono HZA1.out.2.2.2.size)⟩
        have zA2g : A2.cell? ⟨g, 0, none⟩ = some (.slice (some ⟨bp, 0, none⟩) 1 1) := HZA2.out.1.2.1.cell 0
        have zA2e : A2.cell? ⟨g + 1, 0, none⟩ = some (.slice none 0 0) := HZA2.out.1.2.2.1.cell 0
        have zA20 : A2.cell? ⟨h, 0, none⟩ = some (.int .i64 2) := HZA2.out.2.1.cell 0
        have zA21 : A2.cell? ⟨h, 1, none⟩ = some (.string (strOfNums X)) := HZA2.out.2.1.cell 1
        have zA22 : A2.cell? ⟨h, 2, none⟩ = some (.slice a1 n1 c1) := HZA2.out.2.1.cell 2
        have zA23 : A2.cell? ⟨h, 3, none⟩ = some (.slice d1 m1 e1) := HZA2.out.2.1.cell 3
        have zA24 : A2.cell? ⟨k, 0, none⟩ = some (.int .i64 2) := HZA2.out.2.2.1.cell 0
        have zA25 : A2.cell? ⟨k, 1, none⟩ = some (.func (.func 29) #[] #[]) := HZA2.out.2.2.1.cell 1
        clear hb2
        gi_wp2
        refine ⟨trivial, ?_⟩
        refine (CallsIn.inRound l (callsIn_wide.2 (HM1.out A2 HZA2.out.1.2.2.2.2.2.2.1))).mono ?_
        rintro e A3 ⟨rfl, hb3⟩
        have HZA3 : Hid (AI w g bn bp (gen 2 X a1 d1 n1 c1 m1 e1) (gen kb Y a2 d2 n2 c2 m2 e2) A3 ∧ Blk 28 A3 h [.int .i64 2, .string (strOfNums X), .slice a1 n1 c1, .slice d1 m1 e1] ∧ Blk 42 A3 k [.int .i64 2, .func (.func 29) #[] #[]] ∧ Below A.heap.size A A3) := ⟨HZA2.out.1.below hb3, below_blk hb3 HZA2.out.2.1.lt HZA2.out.2.1, below_blk hb3 HZA2.out.2.2.1.lt HZA2.out.2.2.1, HZA2.out.2.2.2.trans (hb3.mono HZA2.out.2.2.2.size)⟩
        have zA3g : A3.cell? ⟨g, 0, none⟩ = some (.slice (some ⟨bp, 0, none⟩) 1 1) := HZA3.out.1.2.1.cell 0
        have zA3e : A3.cell? ⟨g + 1, 0, none⟩ = some (.slice none 0 0) := HZA3.out.1.2.2.1.cell 0
        have zA30 : A3.cell? ⟨h, 0, none⟩ = some (.int .i64 2) := HZA3.out.2.1.cell 0
        have zA31 : A3.cell? ⟨h, 1, none⟩ = some (.string (strOfNums X)) := HZA3.out.2.1.cell 1
        have zA32 : A3.cell? ⟨h, 2, none⟩ = some (.slice a1 n1 c1) := HZA3.out.2.1.cell 2
        have zA33 : A3.cell? ⟨h, 3, none⟩ = some (.slice d1 m1 e1) := HZA3.out.2.1.cell 3
        have zA34 : A3.cell? ⟨k, 0, none⟩ = some (.int .i64 2) := HZA3.out.2.2.1.cell 0
        have zA35 : A3.cell? ⟨k, 1, none⟩ = some (.func (.func 29) #[] #[]) := HZA3.out.2.2.1.cell 1
        have zA3q : A3.cell? ⟨g + 2, 0, none⟩ = some (.bool false) := HZA3.out.1.2.2.2.1.cell 0
        have zA3r : A3.frozen? ⟨g + 2, 0, none⟩ = false := HZA3.out.1.2.2.2.1.frozen 0
        clear hb3
        gi_wp2
        exact ⟨kept_below HZA3.out.2.2.2, HZA3.out.1⟩
      | false =>
        obtain rfl : R = false := HRR.out.symm
        gi_wp2
        refine ⟨trivial, ?_⟩
        refine (CallsIn.inRound l (callsIn_wide.2 (HM0.out A))).mono ?_
        rintro e A1 ⟨rfl, hb1⟩
        have HZA1 : Hid (AI w g bn bp (gen 2 X a1 d1 n1 c1 m1 e1) (gen kb Y a2 d2 n2 c2 m2 e2) A1 ∧ Blk 28 A1 h [.int .i64 2, .string (strOfNums X), .slice a1 n1 c1, .slice d1 m1 e1] ∧ Blk 42 A1 k [.int .i64 2, .func (.func 29) #[] #[]] ∧ Below A.heap.size A A1) := ⟨HZA.out.1.below hb1, below_blk hb1 HZA.out.2.1.lt HZA.out.2.1, below_blk hb1 HZA.out.2.2.1.lt HZA.out.2.2.1, HZA.out.2.2.2.trans (hb1.mono HZA.out.2.2.2.size)⟩
        have zA1g : A1.cell? ⟨g, 0, none⟩ = some (.slice (some ⟨bp, 0, none⟩) 1 1) := HZA1.out.1.2.1.cell 0
        have zA1e : A1.cell? ⟨g + 1, 0, none⟩ = some (.slice none 0 0) := HZA1.out.1.2.2.1.cell 0
        have zA10 : A1.cell? ⟨h, 0, none⟩ = some (.int .i64 2) := HZA1.out.2.1.cell 0
        have zA11 : A1.cell? ⟨h, 1, none⟩ = some (.string (strOfNums X)) := HZA1.out.2.1.cell 1
        have zA12 : A1.cell? ⟨h, 2, none⟩ = some (.slice a1 n1 c1) := HZA1.out.2.1.cell 2
        have zA13 : A1.cell? ⟨h, 3, none⟩ = some (.slice d1 m1 e1) := HZA1.out.2.1.cell 3
        have zA14 : A1.cell? ⟨k, 0, none⟩ = some (.int .i64 2) := HZA1.out.2.2.1.cell 0
        have zA15 : A1.cell? ⟨k, 1, none⟩ = some (.func (.func 29) #[] #[]) := HZA1.out.2.2.1.cell 1
        clear hb1
        gi_wp2
        refine ⟨trivial, ?_⟩
        refine (CallsIn.inRound l (callsIn_wide.2 (HMB.out A1 HZA1.out.1.2.2.2.2.2.2.1))).mono ?_
        rintro e A2 ⟨rfl, hb2⟩
        have HZA2 : Hid (AI w g bn bp (gen 2 X a1 d1 n1 c1 m1 e1) (gen kb Y a2 d2 n2 c2 m2 e2) A2 ∧ Blk 28 A2 h [.int .i64 2, .string (strOfNums X), .slice a1 n1 c1, .slice d1 m1 e1] ∧ Blk 42 A2 k [.int .i64 2, .func (.func 29) #[] #[]] ∧ Below A.heap.size A A2) := ⟨HZA1.out.1.below hb2, below_blk hb2 HZA1.out.2.1.lt HZA1.out.2.1, below_blk hb2 HZA1.out.2.2.1.lt HZA1.out.2.2.1, HZA1.out.2.2.2.trans (hb2.mono HZA1.out.2.2.2.size)⟩
        have zA2g : A2.cell? ⟨g, 0, none⟩ = some (.slice (some ⟨bp, 0, none⟩) 1 1) := HZA2.out.1.2.1.cell 0
        have zA2e : A2.cell? ⟨g + 1, 0, none⟩ = some (.slice none 0 0) := HZA2.out.1.2.2.1.cell 0
        have zA20 : A2.cell? ⟨h, 0, none⟩ = some (.int .i64 2) := HZA2.out.2.1.cell 0
        have zA21 : A2.cell? ⟨h, 1, none⟩ = some (.string (strOfNums X)) := HZA2.out.2.1.cell 1
        have zA22 : A2.cell? ⟨h, 2, none⟩ = some (.slice a1 n1 c1) := HZA2.out.2.1.cell 2
        have zA23 : A2.cell? ⟨h, 3, none⟩ = some (.slice d1 m1 e1) := HZA2.out.2.1.cell 3
        have zA24 : A2.cell? ⟨k, 0, none⟩ = some (.int .i64 2) := HZA2.out.2.2.1.cell 0
        have zA25 : A2.cell? ⟨k, 1, none⟩ = some (.func (.func 29) #[] #[]) := HZA2.out.2.2.1.cell 1
        clear hb2
        gi_wp2
        refine ⟨trivial, ?_⟩
        refine (CallsIn.inRound l (callsIn_wide.2 (HM1.out A2 HZA2.out.1.2.2.2.2.2.2.1))).mono ?_
        rintro e A3 ⟨rfl, hb3⟩
        have HZA3 : Hid (AI w g bn bp (gen 2 X a1 d1 n1 c1 m1 e1) (gen kb Y a2 d2 n2 c2 m2 e2) A3 ∧ Blk 28 A3 h [.int .i64 2, .string (strOfNums X), .slice a1 n1 c1, .slice d1 m1 e1] ∧ Blk 42 A3 k [.int .i64 2, .func (.func 29) #[] #[]] ∧ Below A.heap.size A A3) := ⟨HZA2.out.1.below hb3, below_blk hb3 HZA2.out.2.1.lt HZA2.out.2.1, below_blk hb3 HZA2.out.2.2.1.lt HZA2.out.2.2.1, HZA2.out.2.2.2.trans (hb3.mono HZA2.out.2.2.2.size)⟩
        have zA3g : A3.cell? ⟨g, 0, none⟩ = some (.slice (some ⟨bp, 0, none⟩) 1 1) := HZA3.out.1.2.1.cell 0
        have zA3e : A3.cell? ⟨g + 1, 0, none⟩ = some (.slice none 0 0) := HZA3.out.1.2.2.1.cell 0
        have zA30 : A3.cell? ⟨h, 0, none⟩ = some (.int .i64 2) := HZA3.out.2.1.cell 0
        have zA31 : A3.cell? ⟨h, 1, none⟩ = some (.string (strOfNums X)) := HZA3.out.2.1.cell 1
        have zA32 : A3.cell? ⟨h, 2, none⟩ = some (.slice a1 n1 c1) := HZA3.out.2.1.cell 2
        have zA33 : A3.cell? ⟨h, 3, none⟩ = some (.slice d1 m1 e1) := HZA3.out.2.1.cell 3
        have zA34 : A3.cell? ⟨k, 0, none⟩ = some (.int .i64 2) := HZA3.out.2.2.1.cell 0
        have zA35 : A3.cell? ⟨k, 1, none⟩ = some (.func (.func 29) #[] #[]) := HZA3.out.2.2.1.cell 1
        have zA3q : A3.cell? ⟨g + 2, 0, none⟩ = some (.bool false) := HZA3.out.1.2.2.2.1.cell 0
        have zA3r : A3.frozen? ⟨g + 2, 0, none⟩ = false := HZA3.out.1.2.2.2.1.frozen 0
        clear hb3
        gi_wp2
        have hu := Upd.set A3 (g + 2) 0 (.bool false)
        have hs3 := HZA3.out.2.2.2.size
        refine ⟨⟨Nat.le_trans hs3 hu.size, fun j hj hlt => (hu.block j (by omega) (by simp; omega)).trans (HZA3.out.2.2.2.block j hlt)⟩, ?_⟩
        have q1 := HZA3.out.1.2.2.2.1.set 0 (.bool false)
        have q2 := hu.below HZA3.out.1.2.2.2.2.2.2.2 (by have := HZA3.out.1.1; omega) (by omega)
        first | exact ⟨rfl, q1, q2⟩ | exact ⟨q1, q2⟩
  · intro A hI hd
    have HI : Hid (AI w g bn bp (gen 2 X a1 d1 n1 c1 m1 e1) (gen kb Y a2 d2 n2 c2 m2 e2) A) := hI.1
    have q4 : A.cell? ⟨g + 2, 0, none⟩ = some (.bool false) := hI.1.2.2.2.1.cell 0
    have q5 : A.frozen? ⟨g + 2, 0, none⟩ = false := hI.1.2.2.2.1.frozen 0
    obtain rfl : R = true := hI.2 rfl
    clear hI
    go_wp2
    have hu := Upd.set A (g + 2) 0 (.bool true)
    have hd' : (A.setCell ⟨g + 2, 0, none⟩ (.bool true)).heap[V.heap.size]? = some (.deferred (some [])) := (hu.block _ (Array.getElem?_eq_some_iff.1 hd).1 (by simp; omega)).trans hd
    refine ⟨by simp, .inl ⟨_, _, rfl, run_takeDeferred hd', ?_⟩⟩
    have hbb : Below g w ((A.setCell ⟨g + 2, 0, none⟩ (.bool true)).putObj V.heap.size (.deferred none)) := below_putW' _ (by omega) (hu.below HI.out.2.2.2.2.2.2.2 (by have := HI.out.1; omega) (by omega))
    exact ⟨_, results_cell1 (b := g + 2) (q := true) rfl _ _ rfl ((blk_put _ (by omega) (HI.out.2.2.2.1.set 0 (.bool true))).cell 0), rfl, hbb⟩
  · rintro c A ⟨rfl, hX, hRf⟩ hd
    have HXX : Hid (Blk 4 A (g + 2) [.bool false] ∧ Below g w A) := hX
    subst hRf
    refine wpIn_wide.2 ?_
    go_wp2
    refine ⟨by simp, .inl ⟨_, _, rfl, run_takeDeferred hd, ?_⟩⟩
    exact ⟨_, results_cell1 (b := g + 2) (q := false) rfl _ _ rfl ((blk_put _ (by omega) HXX.out.1).cell 0), rfl, below_putW' _ (by omega) HXX.out.2⟩
end Go.Proofs.YtljgbdmcdaoknaaDoor
/-
  Realm: the page's examples.
-/
namespace Go.Proofs.YtljgbdmcdaoknaaDoor
open Go.RowKit
/-- The lists of the examples lie where they were laid. -/
def MN (w : World) (g : Nat) (W : World) : Prop := Blk 28 W g (gen 2 [97] none none 0 0 0 0) ∧ Blk 28 W (g + 1) (gen 2 [98] none none 0 0 0 0) ∧ Below g w W
theorem MN.below {w : World} {g : Nat} {W W' : World} (h : MN w g W) (hb : Below W.heap.size W W') : MN w g W' :=
  ⟨below_blk hb h.1.lt h.1, below_blk hb h.2.1.lt h.2.1, h.2.2.trans (hb.mono (by have := h.1.lt; omega))⟩
theorem u8d {X : List Int} (h : (X.all fun x => decide (0 ≤ x ∧ x < 256)) = true) : U8s X := fun x hx => by have := List.all_eq_true.1 h x hx; simpa [U8] using this
theorem liveH1 {W : World} : Calls Tryd.prog 10 #[.string ⟨#[97, 46, 66, 46, 101, 120, 97, 109, 112, 108, 101]⟩, .string ⟨#[98, 46, 101, 120, 97, 109, 112, 108, 101]⟩] W fun e w' => e = .returned (.bool true) ∧ Below W.heap.size W w' := by
  have h := Host_any (w := W) [97, 46, 66, 46, 101, 120, 97, 109, 112, 108, 101] [98, 46, 101, 120, 97, 109, 112, 108, 101] (u8d rfl) (u8d rfl) (by decide) (by decide)
  rw [show hostB [97, 46, 66, 46, 101, 120, 97, 109, 112, 108, 101] [98, 46, 101, 120, 97, 109, 112, 108, 101] = true by decide +kernel] at h
  exact h
theorem liveH2 {W : World} : Calls Tryd.prog 10 #[.string ⟨#[97, 98, 46, 101, 120, 97, 109, 112, 108, 101]⟩, .string ⟨#[98, 46, 101, 120, 97, 109, 112, 108, 101]⟩] W fun e w' => e = .returned (.bool false) ∧ Below W.heap.size W w' := by
  have h := Host_any (w := W) [97, 98, 46, 101, 120, 97, 109, 112, 108, 101] [98, 46, 101, 120, 97, 109, 112, 108, 101] (u8d rfl) (u8d rfl) (by decide) (by decide)
  rw [show hostB [97, 98, 46, 101, 120, 97, 109, 112, 108, 101] [98, 46, 101, 120, 97, 109, 112, 108, 101] = false by decide +kernel] at h
  exact h
theorem liveH3 {W : World} : Calls Tryd.prog 10 #[.string ⟨#[98, 46, 101, 120, 97, 109, 112, 108, 101]⟩, .string ⟨#[46, 98, 46, 101, 120, 97, 109, 112, 108, 101]⟩] W fun e w' => e = .returned (.bool false) ∧ Below W.heap.size W w' := by
  have h := Host_any (w := W) [98, 46, 101, 120, 97, 109, 112, 108, 101] [46, 98, 46, 101, 120, 97, 109, 112, 108, 101] (u8d rfl) (u8d rfl) (by decide) (by decide)
  rw [show hostB [98, 46, 101, 120, 97, 109, 112, 108, 101] [46, 98, 46, 101, 120, 97, 109, 112, 108, 101] = false by decide +kernel] at h
  exact h
theorem liveM1 {W : World} : Calls Tryd.prog 11 #[.string ⟨#[120, 64, 98, 46, 101, 120, 97, 109, 112, 108, 101]⟩, .string ⟨#[98, 46, 101, 120, 97, 109, 112, 108, 101]⟩] W fun e w' => e = .returned (.bool true) ∧ Below W.heap.size W w' := by
  have h := Mail_any (w := W) [120, 64, 98, 46, 101, 120, 97, 109, 112, 108, 101] [98, 46, 101, 120, 97, 109, 112, 108, 101] (u8d rfl) (u8d rfl) (by decide) (by decide)
  rw [show mailB [120, 64, 98, 46, 101, 120, 97, 109, 112, 108, 101] [98, 46, 101, 120, 97, 109, 112, 108, 101] = true by decide +kernel] at h
  exact h
theorem liveM2 {W : World} : Calls Tryd.prog 11 #[.string ⟨#[120, 64, 97, 46, 98, 46, 101, 120, 97, 109, 112, 108, 101]⟩, .string ⟨#[98, 46, 101, 120, 97, 109, 112, 108, 101]⟩] W fun e w' => e = .returned (.bool false) ∧ Below W.heap.size W w' := by
  have h := Mail_any (w := W) [120, 64, 97, 46, 98, 46, 101, 120, 97, 109, 112, 108, 101] [98, 46, 101, 120, 97, 109, 112, 108, 101] (u8d rfl) (u8d rfl) (by decide) (by decide)
  rw [show mailB [120, 64, 97, 46, 98, 46, 101, 120, 97, 109, 112, 108, 101] [98, 46, 101, 120, 97, 109, 112, 108, 101] = false by decide +kernel] at h
  exact h
theorem liveA1 {W : World} (p q : Nat) (hp : Blk 28 W p (gen 2 [97] none none 0 0 0 0)) (hq : Blk 28 W q (gen 2 [98] none none 0 0 0 0)) : Calls Tryd.prog 9 #[.slice (some ⟨p, 0, none⟩) 1 1, .slice (some ⟨q, 0, none⟩) 1 1, .slice none 0 0] W fun e w' => e = .returned (.bool false) ∧ Below W.heap.size W w' := by
  have h := Allowed2_any (w := W) [97] [98] (u8d rfl) (u8d rfl) (by decide) (by decide) 2 none none none none 0 0 0 0 0 0 0 0 p q hp hq
  rw [show (!decide ((2 : Int) = 2) || hostB [97] [98]) = false by decide +kernel] at h
  exact h
theorem liveA2 {W : World} (p q : Nat) (hp : Blk 28 W p (gen 2 [97] none none 0 0 0 0)) (hq : Blk 28 W q (gen 1 [98] none none 0 0 0 0)) : Calls Tryd.prog 9 #[.slice (some ⟨p, 0, none⟩) 1 1, .slice (some ⟨q, 0, none⟩) 1 1, .slice none 0 0] W fun e w' => e = .returned (.bool true) ∧ Below W.heap.size W w' := by
  have h := Allowed2_any (w := W) [97] [98] (u8d rfl) (u8d rfl) (by decide) (by decide) 1 none none none none 0 0 0 0 0 0 0 0 p q hp hq
  rw [show (!decide ((1 : Int) = 2) || hostB [97] [98]) = true by decide +kernel] at h
  exact h
theorem liveN {W : World} : Calls Tryd.prog 6 #[.slice (some ⟨W.heap.size, 0, none⟩) 4 4, .slice (some ⟨W.heap.size + 1, 0, none⟩) 8 8] ((W.alloc (.cells #[.int .u8 10, .int .u8 1, .int .u8 2, .int .u8 3] 5)).alloc (.cells #[.int .u8 10, .int .u8 1, .int .u8 0, .int .u8 0, .int .u8 255, .int .u8 255, .int .u8 0, .int .u8 0] 5)) fun e w' => e = .returned (.bool true) ∧ Below ((W.alloc (.cells #[.int .u8 10, .int .u8 1, .int .u8 2, .int .u8 3] 5)).alloc (.cells #[.int .u8 10, .int .u8 1, .int .u8 0, .int .u8 0, .int .u8 255, .int .u8 255, .int .u8 0, .int .u8 0] 5)).heap.size ((W.alloc (.cells #[.int .u8 10, .int .u8 1, .int .u8 2, .int .u8 3] 5)).alloc (.cells #[.int .u8 10, .int .u8 1, .int .u8 0, .int .u8 0, .int .u8 255, .int .u8 255, .int .u8 0, .int .u8 0] 5)) w' := by
  have h1 : Sl .u8 ((W.alloc (.cells #[.int .u8 10, .int .u8 1, .int .u8 2, .int .u8 3] 5)).alloc (.cells #[.int .u8 10, .int .u8 1, .int .u8 0, .int .u8 0, .int .u8 255, .int .u8 255, .int .u8 0, .int .u8 0] 5)) (.slice (some ⟨W.heap.size, 0, none⟩) 4 4) [10, 1, 2, 3] := sl_alloc (new_sl (k := .u8) (e := 5) (w := W) [10, 1, 2, 3] (0, 0)) _
  have h2 : Sl .u8 ((W.alloc (.cells #[.int .u8 10, .int .u8 1, .int .u8 2, .int .u8 3] 5)).alloc (.cells #[.int .u8 10, .int .u8 1, .int .u8 0, .int .u8 0, .int .u8 255, .int .u8 255, .int .u8 0, .int .u8 0] 5)) (.slice (some ⟨W.heap.size + 1, 0, none⟩) 8 8) [10, 1, 0, 0, 255, 255, 0, 0] := by
    have := new_sl (k := .u8) (e := 5) (w := W.alloc (.cells #[.int .u8 10, .int .u8 1, .int .u8 2, .int .u8 3] 5)) [10, 1, 0, 0, 255, 255, 0, 0] (0, 0)
    rw [World.size_alloc] at this
    exact this
  have h := Net_any _ _ _ _ h1 h2 (by decide)
  rw [show netB [10, 1, 2, 3] [10, 1, 0, 0, 255, 255, 0, 0] = true by decide +kernel] at h
  exact h
set_option maxRecDepth 20000 in
set_option maxHeartbeats 4000000 in
theorem live14_any {w : World} : Calls Tryd.prog 5 #[] w fun e w' => e = .returned (.bool true) ∧ Below w.heap.size w w' := by
  obtain ⟨g, hg⟩ : ∃ g, w.heap.size = g := ⟨_, rfl⟩
  rw [hg]
  go_enter Tryd.func5, Tryd.ntmps5
  go_upto_region 2 with (fail)
  refine wp_gen (fun W => MN w g W) ?_ ?_
  · have k0 := (Blk.new 28 w (gen 2 [97] none none 0 0 0 0)).alloc (.cells (gen 2 [98] none none 0 0 0 0).toArray 28)
    have k1 := Blk.new 28 (w.alloc (.cells (gen 2 [97] none none 0 0 0 0).toArray 28)) (gen 2 [98] none none 0 0 0 0)
    have hb := (al1 (w := w) (.cells (gen 2 [97] none none 0 0 0 0).toArray 28)).alloc (al1 _).size (.cells (gen 2 [98] none none 0 0 0 0).toArray 28)
    simp only [World.size_alloc, hg] at k0 k1 hb
    exact ⟨k0, k1, hb⟩
  intro w0 HN0
  go_wp2_with (first
    | (go_at_call 9; have hq := HN7; clear hq; refine (liveA2 _ _ (HN7.1.alloc _) (Blk.new 28 w7 (gen 1 [98] none none 0 0 0 0))).mono ?_; rintro e w8 ⟨rfl, hb8⟩; have HN8 := (HN7.below (al1 _)).below hb8; clear hb8)
    | (go_at_call 9; have hq := HN6; clear hq; refine (liveA1 _ _ HN6.1 HN6.2.1).mono ?_; rintro e w7 ⟨rfl, hb7⟩; have HN7 := HN6.below hb7; clear hb7)
    | (go_at_call 6; have hq := HN5; clear hq; refine liveN.mono ?_; rintro e w6 ⟨rfl, hb6⟩; have HN6 := (HN5.below ((al1 _).alloc (al1 _).size _)).below hb6; clear hb6)
    | (go_at_call 11; have hq := HN4; clear hq; refine liveM2.mono ?_; rintro e w5 ⟨rfl, hb5⟩; have HN5 := HN4.below hb5; clear hb5)
    | (go_at_call 11; have hq := HN3; clear hq; refine liveM1.mono ?_; rintro e w4 ⟨rfl, hb4⟩; have HN4 := HN3.below hb4; clear hb4)
    | (go_at_call 10; have hq := HN2; clear hq; refine liveH3.mono ?_; rintro e w3 ⟨rfl, hb3⟩; have HN3 := HN2.below hb3; clear hb3)
    | (go_at_call 10; have hq := HN1; clear hq; refine liveH2.mono ?_; rintro e w2 ⟨rfl, hb2⟩; have HN2 := HN1.below hb2; clear hb2)
    | (go_at_call 10; have hq := HN0; clear hq; refine liveH1.mono ?_; rintro e w1 ⟨rfl, hb1⟩; have HN1 := HN0.below hb1; clear hb1))
  go_ret
  exact ⟨rfl, HN8.2.2⟩
end Go.Proofs.YtljgbdmcdaoknaaDoor
/-
  The law RealmNets.
-/
namespace Go.Proofs.YtljgbdmcdaoknaaDoor
open Go.RowKit
set_option maxRecDepth 20000 in
set_option maxHeartbeats 4000000 in
theorem RealmNets_any {w : World} (a : Option Addr) (n c : Nat) (X : List Int) (hX : Sl .u8 w (.slice a n c) X) (a' : Option Addr) (n' c' : Nat) (B : List Int) (hB : Sl .u8 w (.slice a' n' c') B) (hn : n ≤ 9223372036854775807) (hn' : n' ≤ 9223372036854775807) :
    Calls Tryd.prog 3 #[.slice a n c, .slice a' n' c'] w fun e w' => e = .returned (.bool true) ∧ Below w.heap.size w w' := by
  have hl : ∀ {v : Value} {S : List Int} {a : Option Addr} {n c : Nat}, Sl .u8 w (.slice a n c) S → n = S.length := fun h => by obtain ⟨_, _, e, _⟩ := h.form6; cases e; rfl
  have l1 : n = X.length := hl (v := .nilFunc) hX
  have l2 : n' = B.length := hl (v := .nilFunc) hB
  have HX : Hid (Sl .u8 w (.slice a n c) X ∧ Sl .u8 w (.slice a' n' c') B ∧ n = X.length ∧ n' = B.length) := ⟨hX, hB, l1, l2⟩
  clear hX hB l1 l2 hl
  have hi : (n : Int) ≤ 9223372036854775807 := by omega
  have hi' : (n' : Int) ≤ 9223372036854775807 := by omega
  by_cases h1 : 2000 < n
  · have h1b : (2000 : Int) < (n : Int) := by omega
    go_enter Tryd.func3, Tryd.ntmps3
    go_wp2_with (go_at_call 5; refine live14_any.mono ?_; rintro e w1 ⟨rfl, hb1⟩)
    go_ret
    exact ⟨rfl, hb1⟩
  have h1b : ¬ (2000 : Int) < (n : Int) := by omega
  by_cases h2 : 2000 < n'
  · have h2b : (2000 : Int) < (n' : Int) := by omega
    go_enter Tryd.func3, Tryd.ntmps3
    go_wp2_with (go_at_call 5; refine live14_any.mono ?_; rintro e w1 ⟨rfl, hb1⟩)
    go_ret
    exact ⟨rfl, hb1⟩
  have h2b : ¬ (2000 : Int) < (n' : Int) := by omega
  go_enter Tryd.func3, Tryd.ntmps3
  go_wp2_with (first
    | (go_at_call 5; have hq := hb2; clear hq; refine live14_any.mono ?_; rintro e w3 ⟨rfl, hb3⟩)
    | (go_at_call 6; refine (Net_any _ _ X B HX.out.1 HX.out.2.1 (by have := HX.out.2.2.1; omega)).mono ?_; rintro e w1 ⟨rfl, hb1⟩)
    | (go_at_call 7; refine (RNet_any _ _ X B (below_sl hb1 HX.out.1) (below_sl hb1 HX.out.2.1) (by have := HX.out.2.2.1; omega) (by have := HX.out.2.2.2; omega)).mono ?_; rintro e w2 ⟨rfl, hb2⟩))
  go_ret
  have hb12 := hb1.trans (hb2.mono hb1.size)
  exact ⟨rfl, hb12.trans (hb3.mono hb12.size)⟩
end Go.Proofs.YtljgbdmcdaoknaaDoor
