/-
  Der: the reference's arcs.
-/
import Derived.Test.YtndoibmpnhkmpaaGreatDoorK28
namespace Go.Proofs.YtndoibmpnhkmpaaGreatDoor
open Go.RowKit
def RArAns (Y : List Int) (B : Nat) (w : World) (e : Ending) : Prop :=
  (∃ A r, arcsP Y = some A ∧ e = .returned (.tuple #[r, .bool (putOk A)]) ∧ Row .i64 3 B w r (capL 1099511627776 A)) ∨ (arcsP Y = none ∧ e = .returned (.tuple #[.slice none 0 0, .bool false]))
set_option maxRecDepth 20000 in
set_option maxHeartbeats 8000000 in
theorem Rarcs_any {w : World} (Y : List Int) (hU : U8s Y) (hl : Y.length ≤ 2000) :
    Calls Tryz.prog 127 #[.string (strOfNums Y)] w fun e w' => RArAns Y w.heap.size w' e ∧ Below w.heap.size w w' := by
  obtain ⟨S, hS⟩ : ∃ S, strOfNums Y = S := ⟨_, rfl⟩
  obtain ⟨n, hn⟩ : ∃ n, Y.length = n := ⟨_, rfl⟩
  have hz : S.size = n := by rw [← hS, st_size]; exact hn
  have hget : ∀ k, k < n → ∀ hh : k < S.size, ((S[k]'hh).toNat : Int) = Y.getD k 0 := by
    intro k hk hh
    have := st_get Y hU k (by omega) (by rw [hS]; exact hh)
    simpa only [hS] using this
  have HX : Hid (U8s Y ∧ Y.length = n ∧ strOfNums Y = S ∧ S.size = n ∧ ∀ k, k < n → ∀ hh : k < S.size, ((S[k]'hh).toNat : Int) = Y.getD k 0) := ⟨hU, hn, hS, hz, hget⟩
  rw [hS]
  have hzI : (S.size : Int) = (n : Int) := by omega
  have hnI : (n : Int) ≤ 2000 := by omega
  clear hU hS hz hget
  go_enter Tryz.func127, Tryz.ntmps127
  go_wp2_with fail
  go_loopw [4, 5, 6] (fun lv fv iv wr => ∃ (i f : Nat) (l0 : Value) (A : List Nat), l0 = lv ∧ fv = .int .i64 f ∧ iv = .int .i64 i ∧ f ≤ n + 1 ∧ A.length ≤ i ∧ ((i ≤ n ∧ (Good Y f i A ∨ Doom Y f i)) ∨ (i = n + 1 ∧ arcsP Y = some A)) ∧ Row .i64 3 w.heap.size wr l0 (capL 1099511627776 A) ∧ Below w.heap.size w wr) (fun _ _ iv _ => n + 1 - (intOf iv).toNat)
  case atStart => exact ⟨0, 0, _, [], rfl, rfl, rfl, by omega, by simp, .inl ⟨by omega, .inl ⟨by omega, fun j h1 h2 => by omega, rfl⟩⟩, Row.nil _ _ _ _, Below.refl _ _⟩
  case round =>
    obtain ⟨i, f, l0, A, rfl, rfl, rfl, hf, hAi, hst, hr, hb⟩ := hrel
    have H1 : Hid (Row .i64 3 w.heap.size wr l0 (capL 1099511627776 A) ∧ Below w.heap.size w wr ∧ A.length ≤ i) := ⟨hr, hb, hAi⟩
    clear hr hb
    have no : Hid (arcsP Y = none → ∀ (W : World) (e : Ending), Below w.heap.size w W → e = .returned (.tuple #[.slice none 0 0, .bool false]) → RArAns Y w.heap.size W e ∧ Below w.heap.size w W) := fun h W e hW he => ⟨.inr ⟨h, he⟩, hW⟩
    rcases hst with ⟨hin, hst⟩ | ⟨hin, hP⟩
    · have l1 : (i : Int) ≤ (n : Int) := by omega
      have hfi : f ≤ i := by rcases hst with h | h; exact h.1; have := h.1; omega
      have HST : Hid (Good Y f i A ∨ Doom Y f i) := hst
      clear hst
      by_cases hmid : i < n ∧ Y.getD i 0 ≠ 46
      · obtain ⟨hlt, hx46⟩ := hmid
        have l2 : (i : Int) < (n : Int) := by omega
        obtain ⟨x, hx⟩ : ∃ x, Y.getD i 0 = x := ⟨_, rfl⟩
        have hg : ∀ hh : i < S.size, ((S[i]'hh).toNat : Int) = x := fun hh => by rw [HX.out.2.2.2.2 i hlt hh, hx]
        rw [hx] at hx46
        have xb : (x != 46) = true := by simpa using hx46
        have hbad : x < 48 ∨ 57 < x → ast Y (i + 1) = none := by
          intro h
          rcases HST.out with hg | hd
          · rw [ast_step hg.2.2 hx, if_neg hx46, if_pos (by omega)]
          · exact ast_none hd.2.2.2 1
        have HBad : Hid (x < 48 ∨ 57 < x → arcsP Y = none) := fun h => arcsP_none (by have := HX.out.2.1; omega) (hbad h)
        have HD : Hid (48 ≤ x → x ≤ 57 → Good Y f (i + 1) A ∨ Doom Y f (i + 1)) := by
          intro h0 h1
          rcases HST.out with hg | hd
          · exact good_digit hg hx h0 h1
          · exact .inr (doom_digit hd hx h0 h1)
        clear hbad hx
        by_cases q1 : x < 48
        · go_wp2
          go_ret2
          exact no.out (HBad.out (.inl q1)) _ _ H1.out.2.1 rfl
        by_cases q2 : 57 < x
        · go_wp2
          go_ret2
          exact no.out (HBad.out (.inr q2)) _ _ H1.out.2.1 rfl
        · go_wp2
          go_roundw
          case rel => exact ⟨i + 1, f, _, A, rfl, rfl, by go_num, hf, by omega, .inl ⟨by omega, HD.out (by omega) (by omega)⟩, H1.out.1, H1.out.2.1⟩
          case measure => simp [intOf]; omega
      · have hcase : ¬ i < n ∨ (i < n ∧ Y.getD i 0 = 46) := by
          by_cases h : i < n
          · right; refine ⟨h, ?_⟩
            by_cases h46 : Y.getD i 0 = 46
            · exact h46
            · exact absurd ⟨h, h46⟩ hmid
          · exact .inl h
        clear hmid
        rcases hcase with hnl | ⟨hlt, h46⟩
        · have hIn : i = n := by omega
          have l2 : ¬ (i : Int) < (n : Int) := by omega
          have HZero : Hid ((∃ A v, ast Y i = some (A, v, 0)) → arcsP Y = none) := by
            rintro ⟨A', v', h⟩
            unfold arcsP; rw [HX.out.2.1, ← hIn, h]; rfl
          have HE : Hid (ast Y i = some (A, dv Y f (i - f), i - f) → 0 < i - f → (i + 1 ≤ n ∧ (Good Y (i + 1) (i + 1) (A ++ [dv Y f (i - f)]) ∨ Doom Y (i + 1) (i + 1))) ∨ (i + 1 = n + 1 ∧ arcsP Y = some (A ++ [dv Y f (i - f)]))) := by
            intro h hk
            refine .inr ⟨by omega, ?_⟩
            unfold arcsP; rw [HX.out.2.1, ← hIn, h]; simp only [Option.bind_some]; rw [if_pos hk]
          clear hIn
          by_cases hfe : f = i
          · subst hfe
            have HN : Hid (arcsP Y = none) := HZero.out (by
              rcases HST.out with hg | hd
              · have := hg.2.2; rw [Nat.sub_self] at this; exact ⟨A, _, this⟩
              · exact absurd hd.1 (by omega))
            go_wp2
            go_ret2
            exact no.out HN.out _ _ H1.out.2.1 rfl
          have hfeb : ((i : Int) == (f : Int)) = false := by simp; omega
          obtain ⟨y, hy⟩ : ∃ y, Y.getD f 0 = y := ⟨_, rfl⟩
          have hgf : ∀ hh : f < S.size, ((S[f]'hh).toNat : Int) = y := fun hh => by rw [HX.out.2.2.2.2 f (by omega) hh, hy]
          have lfn : (f : Int) < (n : Int) := by omega
          have lf0 : (f : Int) ≤ 2001 := by omega
          by_cases hlead : y = 48 ∧ f + 1 < i
          · have HN : Hid (arcsP Y = none) := by
              rcases HST.out with hg | hd
              · obtain ⟨d, hd⟩ : ∃ d, i = f + 2 + d := ⟨i - f - 2, by omega⟩
                subst hd
                exact absurd (by rw [hy]; exact hlead.1) (good_lead d hg)
              · exact arcsP_none (by have := HX.out.2.1; omega) hd.2.2.2
            have y48 : (y == 48) = true := by simpa using hlead.1
            have lf1 : (f : Int) + 1 < (i : Int) := by omega
            clear hlead hy
            go_wp2
            go_ret2
            exact no.out HN.out _ _ H1.out.2.1 rfl
          have HG : Hid (Good Y f i A) := by
            rcases HST.out with hg | hd
            · exact hg
            · exact absurd ⟨by rw [← hy]; exact hd.2.2.1, hd.1⟩ hlead
          have hyc : (y == 48) = false ∨ ((y == 48) = true ∧ ¬ (f : Int) + 1 < (i : Int)) := by
            by_cases h : y = 48
            · right; exact ⟨by simpa using h, by intro h2; exact hlead ⟨h, by omega⟩⟩
            · left; simpa using h
          have HEnd : Hid ((i + 1 ≤ n ∧ (Good Y (i + 1) (i + 1) (A ++ [dv Y f (i - f)]) ∨ Doom Y (i + 1) (i + 1))) ∨ (i + 1 = n + 1 ∧ arcsP Y = some (A ++ [dv Y f (i - f)]))) := HE.out (by have := HG.out.2.2; exact this) (by omega)
          clear hlead hy
          rcases hyc with hyc | ⟨hyc, hyd⟩
          all_goals
            go_wp2_with fail
            go_loopw [7, 8] (fun vv kv wq => ∃ (j : Nat) (t : Int), vv = .int .i64 t ∧ kv = .int .i64 j ∧ f ≤ j ∧ j ≤ i ∧ t = capN 1099511627776 (dv Y f (j - f)) ∧ wr = wq) (fun _ kv _ => i - (intOf kv).toNat)
            case atStart => exact ⟨f, 0, rfl, rfl, by omega, by omega, by rw [Nat.sub_self]; rfl, rfl⟩
            case round =>
              obtain ⟨j, t, rfl, rfl, hfj, hji, ht, rfl⟩ := hrel
              have t0 : 0 ≤ t := by rw [ht]; unfold capN; omega
              have t1 : t ≤ 1099511627776 := by rw [ht]; unfold capN; omega
              have HT : Hid (t = capN 1099511627776 (dv Y f (j - f))) := ht
              clear ht
              by_cases hjl : j < i
              · have lj : (j : Int) < (i : Int) := by omega
                have ljn : (j : Int) < (n : Int) := by omega
                obtain ⟨z, hz⟩ : ∃ z, Y.getD j 0 = z := ⟨_, rfl⟩
                have hzd := HG.out.2.1 j hfj hjl
                rw [hz] at hzd
                have z0 := hzd.1
                have z1 := hzd.2
                have hgz : ∀ hh : j < S.size, ((S[j]'hh).toNat : Int) = z := fun hh => by rw [HX.out.2.2.2.2 j (by omega) hh, hz]
                obtain ⟨u, hu⟩ : ∃ u, z - 48 = u := ⟨_, rfl⟩
                have u0 : 0 ≤ u := by omega
                have u1 : u ≤ 9 := by omega
                obtain ⟨t2, ht2⟩ : ∃ t2, t * 10 + u = t2 := ⟨_, rfl⟩
                have t20 : 0 ≤ t2 := by omega
                have t21 : t2 ≤ 10995116277769 := by omega
                have HS2 : Hid ((t2 ≤ 1099511627776 → t2 = capN 1099511627776 (dv Y f (j + 1 - f))) ∧ (¬ t2 ≤ 1099511627776 → 1099511627776 = capN 1099511627776 (dv Y f (j + 1 - f)))) := by
                  have h1 := HT.out
                  rw [show j + 1 - f = (j - f) + 1 by omega]
                  have h2 : dv Y f (j - f + 1) = 10 * dv Y f (j - f) + (Y.getD (f + (j - f)) 0 - 48).toNat := rfl
                  rw [show f + (j - f) = j by omega, hz] at h2
                  rw [h2]
                  unfold capN at h1 ⊢
                  refine ⟨fun h => ?_, fun h => ?_⟩ <;> omega
                clear hz hzd
                by_cases qc : 1099511627776 < t2
                · go_wp2
                  go_roundw
                  case rel => exact ⟨j + 1, 1099511627776, rfl, by go_num, by omega, by omega, HS2.out.2 (by omega), trivial⟩
                  case measure => simp [intOf]; omega
                · go_wp2
                  go_roundw
                  case rel => exact ⟨j + 1, t2, rfl, by go_num, by omega, by omega, HS2.out.1 (by omega), trivial⟩
                  case measure => simp [intOf]; omega
              · obtain rfl : j = i := by omega
                have lj : ¬ (j : Int) < (j : Int) := by omega
                have HC : Hid (capL 1099511627776 (A ++ [dv Y f (j - f)]) = capL 1099511627776 A ++ [t] ∧ (capL 1099511627776 A).length ≤ 2001) := by
                  refine ⟨?_, ?_⟩
                  · unfold capL; rw [List.map_append, HT.out]; rfl
                  · unfold capL; rw [List.length_map]; omega
                go_wp2_with (at_builtin; refine wpList_ap rfl (.tmp 66) (.tmp 68) 157 157 rfl .i64 3 8 Tryz.undInt Tryz.infoInt (by decide) w.heap.size _ (capL 1099511627776 A) rfl (H1.out.1.alloc _) _ [_] rfl (src_sl Tryz.undInt (new_sl (k := .i64) [_] (0, 0))) (by have := HC.out.2; simp; omega) (by have := H1.out.2.1.size; simp; omega) ?_; intro v2 w2 hr2 hg2)
                have H2 : Hid (Row .i64 3 w.heap.size w2 v2 (capL 1099511627776 (A ++ [dv Y f (j - f)])) ∧ Below w.heap.size w w2) := ⟨by rw [HC.out.1]; exact hr2, (al2' H1.out.2.1).trans (hg2.below (H1.out.1.alloc _) (by have := H1.out.2.1.size; simp; omega))⟩
                clear hr2 hg2
                go_roundw
                case rel => exact ⟨j + 1, j + 1, _, A ++ [dv Y f (j - f)], rfl, by go_num, by go_num, by omega, by rw [List.length_append]; simp; omega, HEnd.out, H2.out.1, H2.out.2⟩
                case measure => simp [intOf]; omega
        · have l2 : (i : Int) < (n : Int) := by omega
          have hg : ∀ hh : i < S.size, ((S[i]'hh).toNat : Int) = 46 := fun hh => by rw [HX.out.2.2.2.2 i hlt hh, h46]
          have HZero : Hid ((∃ A v, ast Y i = some (A, v, 0)) → arcsP Y = none) := by
            rintro ⟨A', v', h⟩
            refine arcsP_none (i := i + 1) (by have := HX.out.2.1; omega) ?_
            rw [ast_step h h46, if_pos rfl, if_neg (by omega)]
          have HE : Hid (ast Y i = some (A, dv Y f (i - f), i - f) → 0 < i - f → (i + 1 ≤ n ∧ (Good Y (i + 1) (i + 1) (A ++ [dv Y f (i - f)]) ∨ Doom Y (i + 1) (i + 1))) ∨ (i + 1 = n + 1 ∧ arcsP Y = some (A ++ [dv Y f (i - f)]))) := by
            intro h hk
            refine .inl ⟨by omega, .inl ⟨by omega, fun j h1 h2 => by omega, ?_⟩⟩
            rw [ast_step h h46, if_pos rfl, if_pos hk, Nat.sub_self]; rfl
          clear h46
          by_cases hfe : f = i
          · subst hfe
            have HN : Hid (arcsP Y = none) := HZero.out (by
              rcases HST.out with hg | hd
              · have := hg.2.2; rw [Nat.sub_self] at this; exact ⟨A, _, this⟩
              · exact absurd hd.1 (by omega))
            go_wp2
            go_ret2
            exact no.out HN.out _ _ H1.out.2.1 rfl
          have hfeb : ((i : Int) == (f : Int)) = false := by simp; omega
          obtain ⟨y, hy⟩ : ∃ y, Y.getD f 0 = y := ⟨_, rfl⟩
          have hgf : ∀ hh : f < S.size, ((S[f]'hh).toNat : Int) = y := fun hh => by rw [HX.out.2.2.2.2 f (by omega) hh, hy]
          have lfn : (f : Int) < (n : Int) := by omega
          have lf0 : (f : Int) ≤ 2001 := by omega
          by_cases hlead : y = 48 ∧ f + 1 < i
          · have HN : Hid (arcsP Y = none) := by
              rcases HST.out with hg | hd
              · obtain ⟨d, hd⟩ : ∃ d, i = f + 2 + d := ⟨i - f - 2, by omega⟩
                subst hd
                exact absurd (by rw [hy]; exact hlead.1) (good_lead d hg)
              · exact arcsP_none (by have := HX.out.2.1; omega) hd.2.2.2
            have y48 : (y == 48) = true := by simpa using hlead.1
            have lf1 : (f : Int) + 1 < (i : Int) := by omega
            clear hlead hy
            go_wp2
            go_ret2
            exact no.out HN.out _ _ H1.out.2.1 rfl
          have HG : Hid (Good Y f i A) := by
            rcases HST.out with hg | hd
            · exact hg
            · exact absurd ⟨by rw [← hy]; exact hd.2.2.1, hd.1⟩ hlead
          have hyc : (y == 48) = false ∨ ((y == 48) = true ∧ ¬ (f : Int) + 1 < (i : Int)) := by
            by_cases h : y = 48
            · right; exact ⟨by simpa using h, by intro h2; exact hlead ⟨h, by omega⟩⟩
            · left; simpa using h
          have HEnd : Hid ((i + 1 ≤ n ∧ (Good Y (i + 1) (i + 1) (A ++ [dv Y f (i - f)]) ∨ Doom Y (i + 1) (i + 1))) ∨ (i + 1 = n + 1 ∧ arcsP Y = some (A ++ [dv Y f (i - f)]))) := HE.out (by have := HG.out.2.2; exact this) (by omega)
          clear hlead hy
          rcases hyc with hyc | ⟨hyc, hyd⟩
          all_goals
            go_wp2_with fail
            go_loopw [7, 8] (fun vv kv wq => ∃ (j : Nat) (t : Int), vv = .int .i64 t ∧ kv = .int .i64 j ∧ f ≤ j ∧ j ≤ i ∧ t = capN 1099511627776 (dv Y f (j - f)) ∧ wr = wq) (fun _ kv _ => i - (intOf kv).toNat)
            case atStart => exact ⟨f, 0, rfl, rfl, by omega, by omega, by rw [Nat.sub_self]; rfl, rfl⟩
            case round =>
              obtain ⟨j, t, rfl, rfl, hfj, hji, ht, rfl⟩ := hrel
              have t0 : 0 ≤ t := by rw [ht]; unfold capN; omega
              have t1 : t ≤ 1099511627776 := by rw [ht]; unfold capN; omega
              have HT : Hid (t = capN 1099511627776 (dv Y f (j - f))) := ht
              clear ht
              by_cases hjl : j < i
              · have lj : (j : Int) < (i : Int) := by omega
                have ljn : (j : Int) < (n : Int) := by omega
                obtain ⟨z, hz⟩ : ∃ z, Y.getD j 0 = z := ⟨_, rfl⟩
                have hzd := HG.out.2.1 j hfj hjl
                rw [hz] at hzd
                have z0 := hzd.1
                have z1 := hzd.2
                have hgz : ∀ hh : j < S.size, ((S[j]'hh).toNat : Int) = z := fun hh => by rw [HX.out.2.2.2.2 j (by omega) hh, hz]
                obtain ⟨u, hu⟩ : ∃ u, z - 48 = u := ⟨_, rfl⟩
                have u0 : 0 ≤ u := by omega
                have u1 : u ≤ 9 := by omega
                obtain ⟨t2, ht2⟩ : ∃ t2, t * 10 + u = t2 := ⟨_, rfl⟩
                have t20 : 0 ≤ t2 := by omega
                have t21 : t2 ≤ 10995116277769 := by omega
                have HS2 : Hid ((t2 ≤ 1099511627776 → t2 = capN 1099511627776 (dv Y f (j + 1 - f))) ∧ (¬ t2 ≤ 1099511627776 → 1099511627776 = capN 1099511627776 (dv Y f (j + 1 - f)))) := by
                  have h1 := HT.out
                  rw [show j + 1 - f = (j - f) + 1 by omega]
                  have h2 : dv Y f (j - f + 1) = 10 * dv Y f (j - f) + (Y.getD (f + (j - f)) 0 - 48).toNat := rfl
                  rw [show f + (j - f) = j by omega, hz] at h2
                  rw [h2]
                  unfold capN at h1 ⊢
                  refine ⟨fun h => ?_, fun h => ?_⟩ <;> omega
                clear hz hzd
                by_cases qc : 1099511627776 < t2
                · go_wp2
                  go_roundw
                  case rel => exact ⟨j + 1, 1099511627776, rfl, by go_num, by omega, by omega, HS2.out.2 (by omega), trivial⟩
                  case measure => simp [intOf]; omega
                · go_wp2
                  go_roundw
                  case rel => exact ⟨j + 1, t2, rfl, by go_num, by omega, by omega, HS2.out.1 (by omega), trivial⟩
                  case measure => simp [intOf]; omega
              · obtain rfl : j = i := by omega
                have lj : ¬ (j : Int) < (j : Int) := by omega
                have HC : Hid (capL 1099511627776 (A ++ [dv Y f (j - f)]) = capL 1099511627776 A ++ [t] ∧ (capL 1099511627776 A).length ≤ 2001) := by
                  refine ⟨?_, ?_⟩
                  · unfold capL; rw [List.map_append, HT.out]; rfl
                  · unfold capL; rw [List.length_map]; omega
                go_wp2_with (at_builtin; refine wpList_ap rfl (.tmp 66) (.tmp 68) 157 157 rfl .i64 3 8 Tryz.undInt Tryz.infoInt (by decide) w.heap.size _ (capL 1099511627776 A) rfl (H1.out.1.alloc _) _ [_] rfl (src_sl Tryz.undInt (new_sl (k := .i64) [_] (0, 0))) (by have := HC.out.2; simp; omega) (by have := H1.out.2.1.size; simp; omega) ?_; intro v2 w2 hr2 hg2)
                have H2 : Hid (Row .i64 3 w.heap.size w2 v2 (capL 1099511627776 (A ++ [dv Y f (j - f)])) ∧ Below w.heap.size w w2) := ⟨by rw [HC.out.1]; exact hr2, (al2' H1.out.2.1).trans (hg2.below (H1.out.1.alloc _) (by have := H1.out.2.1.size; simp; omega))⟩
                clear hr2 hg2
                go_roundw
                case rel => exact ⟨j + 1, j + 1, _, A ++ [dv Y f (j - f)], rfl, by go_num, by go_num, by omega, by rw [List.length_append]; simp; omega, HEnd.out, H2.out.1, H2.out.2⟩
                case measure => simp [intOf]; omega
    · have l1 : ¬ (i : Int) ≤ (n : Int) := by omega
      obtain ⟨al, cl, hv⟩ := H1.out.1.ne
      obtain ⟨k, hk⟩ : ∃ k, A.length = k := ⟨_, rfl⟩
      have hCl : (capL 1099511627776 A).length = k := by unfold capL; rw [List.length_map]; exact hk
      rw [hCl] at hv
      subst hv
      have HP : Hid (arcsP Y = some A ∧ A.length = k) := ⟨hP, hk⟩
      have hk2 : k ≤ 2001 := by omega
      have fin : Hid (∀ (W : World) (e : Ending), (∀ B v X, Row .i64 3 B wr v X → Row .i64 3 B W v X) → Below w.heap.size w W → e = .returned (.tuple #[.slice al k cl, .bool (putOk A)]) → RArAns Y w.heap.size W e ∧ Below w.heap.size w W) := fun W e h hW he => ⟨.inl ⟨A, _, HP.out.1, he, h _ _ _ H1.out.1⟩, hW⟩
      have drw : Hid (∀ q B v X, Row .i64 3 B wr v X → Row .i64 3 B (wr.drewN q) v X) := fun q B v X h => h.below ⟨rfl, rfl, rfl, Nat.le_refl _, fun _ _ => rfl⟩
      clear hP hk
      by_cases h2 : k < 2
      · have h2I : ¬ (2 : Int) ≤ (k : Int) := by omega
        have hK : putOk A = false := by unfold putOk; rw [HP.out.2]; simp; omega
        have HK : Hid (putOk A = false) := hK
        clear hK hCl
        go_upto_region 20 with (fail)
        go_quiet (fail)
        go_wp2
        go_ret2
        exact fin.out _ _ (fun B v X h => drw.out _ B v X h) (below_drewN _ H1.out.2.1) (by rw [HK.out]; rfl)
      · obtain ⟨b1, S1, hv, hB1, hA1, hl1, ht1, hm1⟩ := H1.out.1.open k hCl (by omega)
        simp only [Value.slice.injEq] at hv
        obtain ⟨rfl, _, rfl⟩ := hv
        have hrd := hA1.rd 0 k (by omega)
        rw [List.drop_zero, ht1] at hrd
        obtain ⟨a0, ha0⟩ : ∃ a0, A.getD 0 0 = a0 := ⟨_, rfl⟩
        obtain ⟨a1, ha1⟩ : ∃ a1, A.getD 1 0 = a1 := ⟨_, rfl⟩
        obtain ⟨c0, hc0⟩ : ∃ c0, capN 1099511627776 a0 = c0 := ⟨_, rfl⟩
        obtain ⟨c1, hc1⟩ : ∃ c1, capN 1099511627776 a1 = c1 := ⟨_, rfl⟩
        have d0 : wr.cell? ⟨b1, 0, none⟩ = some (.int .i64 c0) := by
          have := hrd 0 (by omega)
          rw [capL_get, if_pos (by rw [HP.out.2]; omega), ha0, hc0] at this
          exact this
        have d1 : wr.cell? ⟨b1, 1, none⟩ = some (.int .i64 c1) := by
          have := hrd 1 (by omega)
          rw [capL_get, if_pos (by rw [HP.out.2]; omega), ha1, hc1] at this
          exact this
        have e0 : c0 = ((min a0 1099511627776 : Nat) : Int) := by rw [← hc0]; rfl
        have e1 : c1 = ((min a1 1099511627776 : Nat) : Int) := by rw [← hc1]; rfl
        have hK : putOk A = decide (c0 ≤ 2 ∧ (c0 = 2 ∨ c1 < 40)) := by
          unfold putOk
          rw [HP.out.2, ha0, ha1]
          congr 1
          rw [eq_iff_iff]
          omega
        have HK : Hid (putOk A = decide (c0 ≤ 2 ∧ (c0 = 2 ∨ c1 < 40))) := hK
        have h2I : (2 : Int) ≤ (k : Int) := by omega
        have h1I : (1 : Int) < (k : Int) := by omega
        clear hrd ha0 ha1 hc0 hc1 e0 e1 hK hA1 ht1 hm1 hB1 hCl
        by_cases p0 : c0 ≤ 2
        · by_cases p1 : c0 = 2
          · subst p1
            go_upto_region 20 with (fail)
            go_quiet (fail)
            go_wp2
            go_ret2
            exact fin.out _ _ (fun B v X h => drw.out _ B v X h) (below_drewN _ H1.out.2.1) (by rw [HK.out]; simp)
          · have p1b : (c0 == 2) = false := by simpa using p1
            by_cases p2 : c1 < 40
            · go_upto_region 20 with (fail)
              go_quiet (fail)
              go_wp2
              go_ret2
              exact fin.out _ _ (fun B v X h => drw.out _ B v X h) (below_drewN _ H1.out.2.1) (by rw [HK.out, show decide (c0 ≤ 2 ∧ (c0 = 2 ∨ c1 < 40)) = true by simp; omega]; rfl)
            · go_upto_region 20 with (fail)
              go_quiet (fail)
              go_wp2
              go_ret2
              exact fin.out _ _ (fun B v X h => drw.out _ B v X h) (below_drewN _ H1.out.2.1) (by rw [HK.out, show decide (c0 ≤ 2 ∧ (c0 = 2 ∨ c1 < 40)) = false by simp; omega]; rfl)
        · go_upto_region 20 with (fail)
          go_quiet (fail)
          go_wp2
          go_ret2
          exact fin.out _ _ (fun B v X h => drw.out _ B v X h) (below_drewN _ H1.out.2.1) (by rw [HK.out, show decide (c0 ≤ 2 ∧ (c0 = 2 ∨ c1 < 40)) = false by simp; omega]; rfl)
end Go.Proofs.YtndoibmpnhkmpaaGreatDoor
/-
  Der: the reference's PutOid of any text.
-/
namespace Go.Proofs.YtndoibmpnhkmpaaGreatDoor
open Go.RowKit
theorem hiG_0 : hiG 0 = [] := by rw [hiG, dif_pos rfl]
theorem hiG_next {v : Nat} (h : v ≠ 0) : hiG v = hiG (v / 128) ++ [((v % 128 + 128 : Nat) : Int)] := by rw [hiG, dif_neg h]
def RPutAns (Y : List Int) (w w' : World) (e : Ending) : Prop := (∃ r b er, PutR Y b er ∧ e = .returned (.tuple #[r, .int .i64 er]) ∧ Sl .u8 w' r b) ∧ Below w.heap.size w w'
set_option maxRecDepth 20000 in
set_option maxHeartbeats 8000000 in
theorem RPutOid_any {w : World} (Y : List Int) (hU : U8s Y) (hl : Y.length ≤ 2000) :
    Calls Tryz.prog 111 #[.string (strOfNums Y)] w fun e w' => RPutAns Y w w' e := by
  have HX : Hid (U8s Y ∧ Y.length ≤ 2000) := ⟨hU, hl⟩
  clear hU hl
  go_enter Tryz.func111, Tryz.ntmps111
  go_wp2_with fail
  refine (Rarcs_any Y HX.out.1 HX.out.2).mono ?_
  rintro e w1 ⟨ha, hb1⟩
  have HB1 : Hid (Below w.heap.size w w1) := hb1
  have six : Hid ((∀ A, arcsP Y = some A → putOk A = false) → ∀ (W : World) (e : Ending), Below w.heap.size w W → e = .returned (.tuple #[.slice none 0 0, .int .i64 6]) → RPutAns Y w W e) := fun h W e hW he => ⟨⟨_, [], 6, .inl ⟨h, rfl, rfl⟩, he, nil_sl _⟩, hW⟩
  clear hb1
  rcases ha with ⟨A, r1, hA, rfl, hr1⟩ | ⟨hno, rfl⟩
  · have hAl : A.length ≤ 2001 := by have := arcsP_len hA; have := HX.out.2; omega
    obtain ⟨n, hn⟩ : ∃ n, A.length = n := ⟨_, rfl⟩
    have hCl : (capL 1099511627776 A).length = n := by unfold capL; rw [List.length_map]; exact hn
    obtain ⟨ok, hok⟩ : ∃ ok, putOk A = ok := ⟨_, rfl⟩
    rw [hok]
    have H1 : Hid (arcsP Y = some A ∧ A.length = n ∧ putOk A = ok) := ⟨hA, hn, hok⟩
    have hn2 : n ≤ 2001 := by omega
    cases ok with
    | false =>
      have HN : Hid (∀ A', arcsP Y = some A' → putOk A' = false) := by
        intro A' h; rw [H1.out.1] at h; cases h; exact H1.out.2.2
      clear hr1 hA hCl hok
      go_wp2
      go_ret2
      exact six.out HN.out _ _ HB1.out rfl
    | true =>
      have hp := hok
      unfold putOk at hp
      rw [hn] at hp
      simp only [decide_eq_true_eq] at hp
      obtain ⟨h2, hp0, hp1⟩ := hp
      obtain ⟨b1, S1, hv, hB1, hA1, hl1, ht1, hm1⟩ := hr1.open n hCl (by omega)
      subst hv
      have hrd : Rd .i64 w1 b1 0 (capL 1099511627776 A) := by
        have := hA1.rd 0 n (by omega)
        rw [List.drop_zero, ht1] at this
        exact this
      have g : ∀ i, i < n → w1.cell? ⟨b1, i, none⟩ = some (.int .i64 (capN 1099511627776 (A.getD i 0))) := by
        intro i hi
        have := hrd i (by omega)
        rw [Nat.zero_add, capL_get, if_pos (by omega)] at this
        exact this
      obtain ⟨k1, hk1⟩ : ∃ k, S1.length = k := ⟨_, rfl⟩
      have H2 : Hid ((∀ i, i < n → w1.cell? ⟨b1, i, none⟩ = some (.int .i64 (capN 1099511627776 (A.getD i 0)))) ∧ Arr .i64 3 w1 b1 S1 ∧ S1.length = k1 ∧ n ≤ k1 ∧ w.heap.size ≤ b1 ∧ A.getD 0 0 ≤ 2) := ⟨g, hA1, hk1, by omega, hB1, hp0⟩
      rw [hk1] at hl1 ⊢
      have b1w : b1 < w1.heap.size := hA1.lt
      clear hr1 hA hCl hok hrd g hA1 ht1 hm1 hk1 hp0 hp1
      have h2I : (2 : Int) ≤ (n : Int) := by omega
      go_wp2_with fail
      go_loopw [6] (fun iv wr => ∃ (i : Nat), iv = .int .i64 i ∧ i ≤ n ∧ (∀ j, j < i → A.getD j 0 ≤ 2147483647) ∧ w1 = wr) (fun iv _ => n - (intOf iv).toNat)
      case atStart => exact ⟨0, rfl, by omega, fun j hj => by omega, rfl⟩
      case round =>
        obtain ⟨i, rfl, hi, hall, rfl⟩ := hrel
        have HALL : Hid (∀ j, j < i → A.getD j 0 ≤ 2147483647) := hall
        clear hall
        by_cases hlt : i < n
        · have l1 : (i : Int) < (n : Int) := by omega
          obtain ⟨c, hc⟩ : ∃ c, capN 1099511627776 (A.getD i 0) = c := ⟨_, rfl⟩
          have cc : w1.cell? ⟨b1, i, none⟩ = some (.int .i64 c) := by rw [H2.out.1 i hlt, hc]
          have HC : Hid (c = ((min (A.getD i 0) 1099511627776 : Nat) : Int)) := by rw [← hc]; rfl
          clear hc
          by_cases hbig : (2147483647 : Int) < c
          · have HL : Hid (putLong A = true) := by
              show _ = _
              have h3 := HC.out
              unfold putLong
              rw [List.any_eq_true]
              have hiA : i < A.length := by have := H1.out.2.1; omega
              refine ⟨A[i]'hiA, List.getElem_mem _, ?_⟩
              rw [List.getD_eq_getElem?_getD, List.getElem?_eq_getElem hiA] at h3
              simp at h3 ⊢; omega
            go_wp2
            go_ret2
            exact ⟨⟨_, [], 3, .inr (.inl ⟨A, H1.out.1, H1.out.2.2, HL.out, rfl, rfl⟩), rfl, nil_sl _⟩, HB1.out⟩
          · have HN : Hid (∀ j, j < i + 1 → A.getD j 0 ≤ 2147483647) := by
              intro j hj
              by_cases hji : j = i
              · subst hji; have := HC.out; omega
              · exact HALL.out j (by omega)
            go_wp2
            go_roundw
            case rel => exact ⟨i + 1, by go_num, by omega, HN.out, trivial⟩
            case measure => simp [intOf]; omega
        · obtain rfl : i = n := by omega
          have l1 : ¬ (i : Int) < (i : Int) := by omega
          have HN : Hid (putLong A = false ∧ (∀ u ∈ A, u ≤ 2147483647)) := by
            have h4 : ∀ u ∈ A, u ≤ 2147483647 := by
              intro u hu
              obtain ⟨j, hj, rfl⟩ := List.mem_iff_getElem.1 hu
              have := HALL.out j (by have := H1.out.2.1; omega)
              rw [List.getD_eq_getElem?_getD, List.getElem?_eq_getElem hj] at this
              exact this
            refine ⟨?_, h4⟩
            unfold putLong
            rw [List.any_eq_false]
            intro u hu
            have := h4 u hu
            simp; omega
          have hcell : ∀ j, j < i → w1.cell? ⟨b1, j, none⟩ = some (.int .i64 ((A.getD j 0 : Nat) : Int)) := by
            intro j hj
            rw [H2.out.1 j hj]
            have h4 := HALL.out j hj
            unfold capN
            congr 3
            omega
          obtain ⟨a0, ha0⟩ : ∃ a0, A.getD 0 0 = a0 := ⟨_, rfl⟩
          obtain ⟨a1, ha1⟩ : ∃ a1, A.getD 1 0 = a1 := ⟨_, rfl⟩
          have d0 : w1.cell? ⟨b1, 0, none⟩ = some (.int .i64 (a0 : Int)) := by rw [hcell 0 (by omega), ha0]
          have d1 : w1.cell? ⟨b1, 1, none⟩ = some (.int .i64 (a1 : Int)) := by rw [hcell 1 (by omega), ha1]
          have f1 : w1.frozen? ⟨b1, 1, none⟩ = false := H2.out.2.1.frozen 1
          have a0b : (a0 : Int) ≤ 2 := by have := H2.out.2.2.2.2.2; omega
          have a1b : (a1 : Int) ≤ 2147483647 := by have := HALL.out 1 (by omega); omega
          obtain ⟨s0, hs0⟩ : ∃ s0 : Nat, 40 * a0 + a1 = s0 := ⟨_, rfl⟩
          have hs1 : (a1 : Int) + 40 * (a0 : Int) = (s0 : Int) := by omega
          have hs2 : s0 ≤ 4294967295 := by omega
          obtain ⟨T, hT⟩ : ∃ T, s0 :: A.drop 2 = T := ⟨_, rfl⟩
          have HT : Hid (s0 :: A.drop 2 = T ∧ T.length = i - 1 ∧ T.flatMap sevL = putB A ∧ (∀ u ∈ T, u ≤ 4294967295) ∧ (∀ j, 2 ≤ j → T.getD (j - 1) 0 = A.getD j 0)) := by
            refine ⟨hT, ?_, ?_, ?_, ?_⟩
            · rw [← hT, List.length_cons, List.length_drop, H1.out.2.1]; omega
            · rw [← hT, List.flatMap_cons]; unfold putB; rw [ha0, ha1, hs0]
            · intro u hu
              rw [← hT] at hu
              rcases List.mem_cons.1 hu with rfl | hu
              · exact hs2
              · have := HN.out.2 u (List.mem_of_mem_drop hu); omega
            · intro j hj
              obtain ⟨d, rfl⟩ : ∃ d, j = d + 2 := ⟨j - 2, by omega⟩
              rw [← hT, show d + 2 - 1 = d + 1 by omega, List.getD_cons_succ, List.getD_eq_getElem?_getD, List.getD_eq_getElem?_getD, List.getElem?_drop, Nat.add_comm]
          have HCell : Hid (∀ W : World, Upd w1 W b1 → Arr .i64 3 W b1 (S1.set 1 (s0 : Int)) → ∀ j, 1 ≤ j → j < i → W.cell? ⟨b1, j, none⟩ = some (.int .i64 ((T.getD (j - 1) 0 : Nat) : Int))) := by
            intro W _ hW j hj1 hji
            have hlen := H2.out.2.2.1
            have hle := H2.out.2.2.2.1
            rw [hW.cell j (by rw [List.length_set]; omega)]
            by_cases hj : j = 1
            · subst hj
              rw [← HT.out.1, List.getD_eq_getElem?_getD, List.getElem?_set_self (by omega)]; rfl
            · have h5 := H2.out.2.1.cell j (by omega)
              rw [hcell j hji] at h5
              rw [HT.out.2.2.2.2 j (by omega), List.getD_eq_getElem?_getD, List.getElem?_set_ne (by omega), ← List.getD_eq_getElem?_getD]
              exact h5.symm
          clear ha0 ha1 hcell hs0 hT
          go_upto_region 9 with (fail)
          refine wp_region_qsd 10 (by kernel_rfl) (by kernel_rfl) ?_
          simp only [List.take_succ_cons, List.take_zero, List.drop_succ_cons, List.drop_zero]
          repeat (go_big_quiet_step (fail))
          refine wpQuiet_nil ?_
          rintro _ ⟨q3, rfl⟩
          have d1' : (w1.drewN q3).cell? ⟨b1, 1, none⟩ = some (.int .i64 (a1 : Int)) := d1
          have f1' : (w1.drewN q3).frozen? ⟨b1, 1, none⟩ = false := f1
          have b1w' : b1 < (w1.drewN q3).heap.size := b1w
          go_upto_region 10 with (fail)
          refine wp_gen (fun W => Upd w1 W b1 ∧ Arr .i64 3 W b1 (S1.set 1 (s0 : Int))) ?_ ?_
          · exact ⟨Upd.trans (w' := w1.drewN q3) ⟨rfl, rfl, rfl, Nat.le_refl _, fun _ _ _ => rfl⟩ (Upd.set _ _ _ _), Arr.set (w := w1.drewN q3) H2.out.2.1 1 _⟩
          rintro w2 ⟨hu2, ha2⟩
          have H3 : Hid (Below w.heap.size w w2 ∧ (∀ j, 1 ≤ j → j < i → w2.cell? ⟨b1, j, none⟩ = some (.int .i64 ((T.getD (j - 1) 0 : Nat) : Int))) ∧ b1 < w2.heap.size) := ⟨hu2.below HB1.out HB1.out.size H2.out.2.2.2.2.1, HCell.out w2 hu2 ha2, ha2.lt⟩
          clear hu2 ha2 d0 d1 f1 d1' f1' b1w' b1w
          go_wp2_with fail
          go_loopw [7, 8] (fun bv iv wr => ∃ (j : Nat) (s1 : Value), s1 = bv ∧ iv = .int .i64 j ∧ 1 ≤ j ∧ j ≤ i ∧ Row .u8 5 w2.heap.size wr s1 ((T.take (j - 1)).flatMap sevL) ∧ Below w2.heap.size w2 wr) (fun _ iv _ => i - (intOf iv).toNat)
          case atStart => exact ⟨1, _, rfl, rfl, by omega, by omega, Row.nil _ _ _ _, Below.refl _ _⟩
          case round =>
            obtain ⟨j, s1, rfl, rfl, hj1, hji, hr, hb⟩ := hrel
            obtain ⟨w5, h5⟩ : ∃ W, W = wr := ⟨wr, rfl⟩
            subst h5
            have H5 : Hid (Row .u8 5 w2.heap.size w5 s1 ((T.take (j - 1)).flatMap sevL) ∧ Below w2.heap.size w2 w5) := ⟨hr, hb⟩
            clear hr hb
            by_cases hjl : j < i
            · have l2 : (j : Int) < (i : Int) := by omega
              obtain ⟨u, hu⟩ : ∃ u, T.getD (j - 1) 0 = u := ⟨_, rfl⟩
              have hTl : j - 1 < T.length := by have := HT.out.2.1; omega
              have hu2 : u ≤ 4294967295 := by
                rw [← hu, List.getD_eq_getElem?_getD, List.getElem?_eq_getElem hTl]
                exact HT.out.2.2.2.1 _ (List.getElem_mem _)
              have b1r : b1 < w5.heap.size := Nat.lt_of_lt_of_le H3.out.2.2 H5.out.2.size
              have cu : w5.cell? ⟨b1, j, none⟩ = some (.int .i64 (u : Int)) := by
                rw [H5.out.2.cell (p := ⟨b1, j, none⟩) H3.out.2.2, H3.out.2.1 j hj1 hjl, hu]
              have HU : Hid (((T.take (j - 1)).flatMap sevL).length ≤ 100000 ∧ (T.take j).flatMap sevL = (T.take (j - 1)).flatMap sevL ++ sevL u ∧ (sevL u).length ≤ 5) := by
                refine ⟨?_, ?_, sevL_len u hu2⟩
                · have h2 := flat_len (T.take (j - 1)) (fun z hz => HT.out.2.2.2.1 z (List.mem_of_mem_take hz))
                  rw [List.length_take] at h2
                  omega
                · have := flat_snoc T (j - 1) hTl
                  rw [show j - 1 + 1 = j by omega, hu] at this
                  exact this
              clear hu hTl
              have z00 : IntKind.u8.wrap ((u : Int) % 128) = (u : Int) % 128 := wrapU8 _ (by omega) (by omega)
              have HZ0 : Hid ((u : Int) % 128 = ((u % 128 : Nat) : Int)) := by show _ = _; omega
              have huI : (u : Int) ≤ 4294967295 := by omega
              go_wp2_with fail
              go_loopw [9, 10] (fun tv vv wq => ∃ (v : Nat) (t1 : Value) (R : List Int), t1 = tv ∧ vv = .int .i64 v ∧ v ≤ 4294967295 ∧ hiG v ++ R = sevL u ∧ Row .u8 5 w5.heap.size wq t1 R ∧ Below w5.heap.size w5 wq) (fun _ vv _ => (intOf vv).toNat)
              case atStart => exact ⟨u / 128, _, [(u : Int) % 128], rfl, by go_num, by omega, by rw [sevL_hi, HZ0.out], Row.arr (S := [(u : Int) % 128]) (arr_nw rfl rfl) (Nat.le_refl _) (by simp [maxLen]), al1 _⟩
              case round =>
                obtain ⟨v, t1, R, rfl, rfl, hv, hR, hr, hb⟩ := hrel
                have H6 : Hid (Row .u8 5 w5.heap.size wr t1 R ∧ Below w5.heap.size w5 wr ∧ hiG v ++ R = sevL u ∧ R.length ≤ 5) := ⟨hr, hb, hR, by have := HU.out.2.2; rw [← hR, List.length_append] at this; omega⟩
                clear hr hb hR
                by_cases hv0 : v = 0
                · subst hv0
                  have HR : Hid (R = sevL u) := by
                    show _ = _
                    have := H6.out.2.2.1
                    rw [hiG_0, List.nil_append] at this; exact this
                  go_wp2_with (at_builtin; refine wpList_ap rfl (.tmp 68) (.tmp 69) 25 25 rfl .u8 5 1 Tryz.und8 Tryz.info8 (by decide) w2.heap.size _ ((T.take (j - 1)).flatMap sevL) rfl (H5.out.1.below H6.out.2.1) _ R rfl (src_sl Tryz.und8 H6.out.1.sl) (by have := HU.out.1; have := H6.out.2.2.2; omega) (by have := H5.out.2.size; have := H6.out.2.1.size; omega) ?_; intro v8 w8 hr8 hg8)
                  have H8 : Hid (Row .u8 5 w2.heap.size w8 v8 ((T.take (j + 1 - 1)).flatMap sevL) ∧ Below w2.heap.size w2 w8) := ⟨by rw [show j + 1 - 1 = j by omega, HU.out.2.1, ← HR.out]; exact hr8, (H5.out.2.trans (H6.out.2.1.mono H5.out.2.size)).trans (hg8.below (H5.out.1.below H6.out.2.1) (by have := H5.out.2.size; have := H6.out.2.1.size; omega))⟩
                  clear hr8 hg8
                  go_roundw
                  case rel => exact ⟨j + 1, _, rfl, by go_num, by omega, by omega, H8.out.1, H8.out.2⟩
                  case measure => simp [intOf]; omega
                · have g1 : (0 : Int) < (v : Int) := by omega
                  have hq2 : v / 128 < v := by omega
                  obtain ⟨z, hz⟩ : ∃ z : Int, (v : Int) % 128 = z := ⟨_, rfl⟩
                  have z3 : IntKind.u8.wrap (z + 128) = z + 128 := wrapU8 _ (by omega) (by omega)
                  have HZ : Hid (hiG (v / 128) ++ ([z + 128] ++ R) = sevL u) := by
                    show _ = _
                    have h := H6.out.2.2.1
                    rw [hiG_next hv0] at h
                    rw [← h, List.append_assoc, show z + 128 = ((v % 128 + 128 : Nat) : Int) by omega]
                  have hvI : (v : Int) ≤ 4294967295 := by omega
                  have hrw : Row .u8 5 w5.heap.size (wr.alloc (.cells #[.int .u8 (z + 128)] 5)) (.slice (some ⟨wr.heap.size, 0, none⟩) 1 1) [z + 128] := Row.arr (S := [z + 128]) (arr_nw rfl rfl) H6.out.2.1.size (by simp [maxLen])
                  have HRw : Hid (Row .u8 5 w5.heap.size (wr.alloc (.cells #[.int .u8 (z + 128)] 5)) (.slice (some ⟨wr.heap.size, 0, none⟩) 1 1) [z + 128]) := hrw
                  clear hrw
                  go_wp2_with (at_builtin; refine wpList_ap rfl (.tmp 65) (.tmp 66) 25 25 rfl .u8 5 1 Tryz.und8 Tryz.info8 (by decide) w5.heap.size _ [z + 128] rfl HRw.out _ R rfl (src_sl Tryz.und8 (H6.out.1.alloc _).sl) (by have := H6.out.2.2.2; simp; omega) (by have := H6.out.2.1.size; simp; omega) ?_; intro v6 w6 hr6 hg6)
                  have H7 : Hid (Row .u8 5 w5.heap.size w6 v6 ([z + 128] ++ R) ∧ Below w5.heap.size w5 w6) := ⟨hr6, (al2' H6.out.2.1).trans (hg6.below HRw.out (by have := H6.out.2.1.size; simp; omega))⟩
                  clear hr6 hg6
                  go_roundw
                  case rel => exact ⟨v / 128, _, [z + 128] ++ R, rfl, by go_num, by omega, HZ.out, H7.out.1, H7.out.2⟩
                  case measure => simp [intOf]; omega
            · obtain rfl : j = i := by omega
              have l2 : ¬ (j : Int) < (j : Int) := by omega
              have HE : Hid ((T.take (j - 1)).flatMap sevL = putB A) := by
                show _ = _
                rw [List.take_of_length_le (by have := HT.out.2.1; omega)]
                exact HT.out.2.2.1
              go_wp2
              go_ret2
              refine ⟨⟨_, putB A, 0, .inr (.inr ⟨A, H1.out.1, H1.out.2.2, HN.out.1, rfl, rfl⟩), rfl, ?_⟩, H3.out.1.trans (H5.out.2.mono H3.out.1.size)⟩
              rw [← HE.out]; exact H5.out.1.sl
  · have HN : Hid (∀ A', arcsP Y = some A' → putOk A' = false) := by intro A' h; rw [hno] at h; cases h
    clear hno
    go_wp2
    go_ret2
    exact six.out HN.out _ _ HB1.out rfl
end Go.Proofs.YtndoibmpnhkmpaaGreatDoor
