/-
  Der: the reference's arcs.
-/
import Derived.Test.YtndcpjnfdgojkaaDoorE79
namespace Go.Proofs.YtndcpjnfdgojkaaDoor
open Go.RowKit
def RArAns (Y : List Int) (B : Nat) (w : World) (e : Ending) : Prop :=
  (∃ A r, arcsP Y = some A ∧ e = .returned (.tuple #[r, .bool (putOk A)]) ∧ Row .i64 3 B w r (capL 1099511627776 A)) ∨ (arcsP Y = none ∧ e = .returned (.tuple #[.slice none 0 0, .bool false]))
set_option maxRecDepth 20000 in
set_option maxHeartbeats 8000000 in
theorem Rarcs_any {w : World} (Y : List Int) (hU : U8s Y) (hl : Y.length ≤ 2000) :
    Calls Tryd.prog 50 #[.string (strOfNums Y)] w fun e w' => RArAns Y w.heap.size w' e ∧ Below w.heap.size w w' := by
  obtain ⟨S, hS⟩ : ∃ S, strOfNums Y = S := ⟨_, rfl⟩
  obtain ⟨n, hn⟩ : ∃ n, Y.length = n := ⟨_, rfl⟩
  have hz : S.size = n := by rw [← hS, st_size]; exact hn
  have hget : ∀ k, k < n → ∀ hh : k < S.size, ((S[k]'hh).toNat : Int) = Y.getD k 0 := by
    intro k hk hh
    have := st_get Y hU k (by omega) (by rw [hS]; exact hh)
    simpa only [hS] using this
  have HX : Hid (U8s Y ∧ Y.length = n ∧ strOfNums Y = S ∧ S.size = n ∧ ∀ k, k < n → ∀ hh : k < S.size, ((S[k]'hh).toNat : Int) = Y.getD k 0) := ⟨hU, hn, hS, hz, hget⟩
  rw [hS]
  have hzI : (S.size : Int) = (n : Int) := by omega
  have hnI : (n : Int) ≤ 2000 := by omega
  clear hU hS hz hget
  go_enter Tryd.func50, Tryd.ntmps50
  go_wp2_with fail
  go_loopw [4, 5, 6] (fun lv fv iv wr => ∃ (i f : Nat) (l0 : Value) (A : List Nat), l0 = lv ∧ fv = .int .i64 f ∧ iv = .int .i64 i ∧ f ≤ n + 1 ∧ A.length ≤ i ∧ ((i ≤ n ∧ (Good Y f i A ∨ Doom Y f i)) ∨ (i = n + 1 ∧ arcsP Y = some A)) ∧ Row .i64 3 w.heap.size wr l0 (capL 1099511627776 A) ∧ Below w.heap.size w wr) (fun _ _ iv _ => n + 1 - (intOf iv).toNat)
  case atStart => exact ⟨0, 0, _, [], rfl, rfl, rfl, by omega, by simp, .inl ⟨by omega, .inl ⟨by omega, fun j h1 h2 => by omega, rfl⟩⟩, Row.nil _ _ _ _, Below.refl _ _⟩
  case round =>
    obtain ⟨i, f, l0, A, rfl, rfl, rfl, hf, hAi, hst, hr, hb⟩ := hrel
    have H1 : Hid (Row .i64 3 w.heap.size wr l0 (capL 1099511627776 A) ∧ Below w.heap.size w wr ∧ A.length ≤ i) := ⟨hr, hb, hAi⟩
    clear hr hb
    have no : Hid (arcsP Y = none → ∀ (W : World) (e : Ending), Below w.heap.size w W → e = .returned (.tuple #[.slice none 0 0, .bool false]) → RArAns Y w.heap.size W e ∧ Below w.heap.size w W) := fun h W e hW he => ⟨.inr ⟨h, he⟩, hW⟩
    rcases hst with ⟨hin, hst⟩ | ⟨hin, hP⟩
    · have l1 : (i : Int) ≤ (n : Int) := by omega
      have hfi : f ≤ i := by rcases hst with h | h; exact h.1; have := h.1; omega
      have HST : Hid (Good Y f i A ∨ Doom Y f i) := hst
      clear hst
      by_cases hmid : i < n ∧ Y.getD i 0 ≠ 46
      · obtain ⟨hlt, hx46⟩ := hmid
        have l2 : (i : Int) < (n : Int) := by omega
        obtain ⟨x, hx⟩ : ∃ x, Y.getD i 0 = x := ⟨_, rfl⟩
        have hg : ∀ hh : i < S.size, ((S[i]'hh).toNat : Int) = x := fun hh => by rw [HX.out.2.2.2.2 i hlt hh, hx]
        rw [hx] at hx46
        have xb : (x != 46) = true := by simpa using hx46
        have hbad : x < 48 ∨ 57 < x → ast Y (i + 1) = none := by
          intro h
          rcases HST.out with hg | hd
          · rw [ast_step hg.2.2 hx, if_neg hx46, if_pos (by omega)]
          · exact ast_none hd.2.2.2 1
        have HBad : Hid (x < 48 ∨ 57 < x → arcsP Y = none) := fun h => arcsP_none (by have := HX.out.2.1; omega) (hbad h)
        have HD : Hid (48 ≤ x → x ≤ 57 → Good Y f (i + 1) A ∨ Doom Y f (i + 1)) := by
          intro h0 h1
          rcases HST.out with hg | hd
          · exact good_digit hg hx h0 h1
          · exact .inr (doom_digit hd hx h0 h1)
        clear hbad hx
        by_cases q1 : x < 48
        · go_wp2
          go_ret2
          exact no.out (HBad.out (.inl q1)) _ _ H1.out.2.1 rfl
        by_cases q2 : 57 < x
        · go_wp2
          go_ret2
          exact no.out (HBad.out (.inr q2)) _ _ H1.out.2.1 rfl
        · go_wp2
          go_roundw
          case rel => exact ⟨i + 1, f, _, A, rfl, rfl, by go_num, hf, by omega, .inl ⟨by omega, HD.out (by omega) (by omega)⟩, H1.out.1, H1.out.2.1⟩
          case measure => simp [intOf]; omega
      · have hcase : ¬ i < n ∨ (i < n ∧ Y.getD i 0 = 46) := by
          by_cases h : i < n
          · right; refine ⟨h, ?_⟩
            by_cases h46 : Y.getD i 0 = 46
            · exact h46
            · exact absurd ⟨h, h46⟩ hmid
          · exact .inl h
        clear hmid
        rcases hcase with hnl | ⟨hlt, h46⟩
        · have hIn : i = n := by omega
          have l2 : ¬ (i : Int) < (n : Int) := by omega
          have HZero : Hid ((∃ A v, ast Y i = some (A, v, 0)) → arcsP Y = none) := by
            rintro ⟨A', v', h⟩
            unfold arcsP; rw [HX.out.2.1, ← hIn, h]; rfl
          have HE : Hid (ast Y i = some (A, dv Y f (i - f), i - f) → 0 < i - f → (i + 1 ≤ n ∧ (Good Y (i + 1) (i + 1) (A ++ [dv Y f (i - f)]) ∨ Doom Y (i + 1) (i + 1))) ∨ (i + 1 = n + 1 ∧ arcsP Y = some (A ++ [dv Y f (i - f)]))) := by
            intro h hk
            refine .inr ⟨by omega, ?_⟩
            unfold arcsP; rw [HX.out.2.1, ← hIn, h]; simp only [Option.bind_some]; rw [if_pos hk]
          clear hIn
          by_cases hfe : f = i
          · subst hfe
            have HN : Hid (arcsP Y = none) := HZero.out (by
              rcases HST.out with hg | hd
              · have := hg.2.2; rw [Nat.sub_self] at this; exact ⟨A, _, this⟩
              · exact absurd hd.1 (by omega))
            go_wp2
            go_ret2
            exact no.out HN.out _ _ H1.out.2.1 rfl
          have hfeb : ((i : Int) == (f : Int)) = false := by simp; omega
          obtain ⟨y, hy⟩ : ∃ y, Y.getD f 0 = y := ⟨_, rfl⟩
          have hgf : ∀ hh : f < S.size, ((S[f]'hh).toNat : Int) = y := fun hh => by rw [HX.out.2.2.2.2 f (by omega) hh, hy]
          have lfn : (f : Int) < (n : Int) := by omega
          have lf0 : (f : Int) ≤ 2001 := by omega
          by_cases hlead : y = 48 ∧ f + 1 < i
          · have HN : Hid (arcsP Y = none) := by
              rcases HST.out with hg | hd
              · obtain ⟨d, hd⟩ : ∃ d, i = f + 2 + d := ⟨i - f - 2, by omega⟩
                subst hd
                exact absurd (by rw [hy]; exact hlead.1) (good_lead d hg)
              · exact arcsP_none (by have := HX.out.2.1; omega) hd.2.2.2
            have y48 : (y == 48) = true := by simpa using hlead.1
            have lf1 : (f : Int) + 1 < (i : Int) := by omega
            clear hlead hy
            go_wp2
            go_ret2
            exact no.out HN.out _ _ H1.out.2.1 rfl
          have HG : Hid (Good Y f i A) := by
            rcases HST.out with hg | hd
            · exact hg
            · exact absurd ⟨by rw [← hy]; exact hd.2.2.1, hd.1⟩ hlead
          have hyc : (y == 48) = false ∨ ((y == 48) = true ∧ ¬ (f : Int) + 1 < (i : Int)) := by
            by_cases h : y = 48
            · right; exact ⟨by simpa using h, by intro h2; exact hlead ⟨h, by omega⟩⟩
            · left; simpa using h
          have HEnd : Hid ((i + 1 ≤ n ∧ (Good Y (i + 1) (i + 1) (A ++ [dv Y f (i - f)]) ∨ Doom Y (i + 1) (i + 1))) ∨ (i + 1 = n + 1 ∧ arcsP Y = some (A ++ [dv Y f (i - f)]))) := HE.out (by have := HG.out.2.2; exact this) (by omega)
          clear hlead hy
          rcases hyc with hyc | ⟨hyc, hyd⟩
          all_goals
            go_wp2_with fail
            go_loopw [7, 8] (fun vv kv wq => ∃ (j : Nat) (t : Int), vv = .int .i64 t ∧ kv = .int .i64 j ∧ f ≤ j ∧ j ≤ i ∧ t = capN 1099511627776 (dv Y f (j - f)) ∧ wr = wq) (fun _ kv _ => i - (intOf kv).toNat)
            case atStart => exact ⟨f, 0, rfl, rfl, by omega, by omega, by rw [Nat.sub_self]; rfl, rfl⟩
            case round =>
              obtain ⟨j, t, rfl, rfl, hfj, hji, ht, rfl⟩ := hrel
              have t0 : 0 ≤ t := by rw [ht]; unfold capN; omega
              have t1 : t ≤ 1099511627776 := by rw [ht]; unfold capN; omega
              have HT : Hid (t = capN 1099511627776 (dv Y f (j - f))) := ht
              clear ht
              by_cases hjl : j < i
              · have lj : (j : Int) < (i : Int) := by omega
                have ljn : (j : Int) < (n : Int) := by omega
                obtain ⟨z, hz⟩ : ∃ z, Y.getD j 0 = z := ⟨_, rfl⟩
                have hzd := HG.out.2.1 j hfj hjl
                rw [hz] at hzd
                have z0 := hzd.1
                have z1 := hzd.2
                have hgz : ∀ hh : j < S.size, ((S[j]'hh).toNat : Int) = z := fun hh => by rw [HX.out.2.2.2.2 j (by omega) hh, hz]
                obtain ⟨u, hu⟩ : ∃ u, z - 48 = u := ⟨_, rfl⟩
                have u0 : 0 ≤ u := by omega
                have u1 : u ≤ 9 := by omega
                obtain ⟨t2, ht2⟩ : ∃ t2, t * 10 + u = t2 := ⟨_, rfl⟩
                have t20 : 0 ≤ t2 := by omega
                have t21 : t2 ≤ 10995116277769 := by omega
                have HS2 : Hid ((t2 ≤ 1099511627776 → t2 = capN 1099511627776 (dv Y f (j + 1 - f))) ∧ (¬ t2 ≤ 1099511627776 → 1099511627776 = capN 1099511627776 (dv Y f (j + 1 - f)))) := by
                  have h1 := HT.out
                  rw [show j + 1 - f = (j - f) + 1 by omega]
                  have h2 : dv Y f (j - f + 1) = 10 * dv Y f (j - f) + (Y.getD (f + (j - f)) 0 - 48).toNat := rfl
                  rw [show f + (j - f) = j by omega, hz] at h2
                  rw [h2]
                  unfold capN at h1 ⊢
                  refine ⟨fun h => ?_, fun h => ?_⟩ <;> omega
                clear hz hzd
                by_cases qc : 1099511627776 < t2
                · go_wp2
                  go_roundw
                  case rel => exact ⟨j + 1, 1099511627776, rfl, by go_num, by omega, by omega, HS2.out.2 (by omega), trivial⟩
                  case measure => simp [intOf]; omega
                · go_wp2
                  go_roundw
                  case rel => exact ⟨j + 1, t2, rfl, by go_num, by omega, by omega, HS2.out.1 (by omega), trivial⟩
                  case measure => simp [intOf]; omega
              · obtain rfl : j = i := by omega
                have lj : ¬ (j : Int) < (j : Int) := by omega
                have HC : Hid (capL 1099511627776 (A ++ [dv Y f (j - f)]) = capL 1099511627776 A ++ [t] ∧ (capL 1099511627776 A).length ≤ 2001) := by
                  refine ⟨?_, ?_⟩
                  · unfold capL; rw [List.map_append, HT.out]; rfl
                  · unfold capL; rw [List.length_map]; omega
                go_wp2_with (at_builtin; refine wpList_ap rfl (.tmp 66) (.tmp 68) 91 91 rfl .i64 3 8 Tryd.undInt Tryd.infoInt (by decide) w.heap.size _ (capL 1099511627776 A) rfl (H1.out.1.alloc _) _ [_] rfl (src_sl Tryd.undInt (new_sl (k := .i64) [_] (0, 0))) (by have := HC.out.2; simp; omega) (by have := H1.out.2.1.size; simp; omega) ?_; intro v2 w2 hr2 hg2)
                have H2 : Hid (Row .i64 3 w.heap.size w2 v2 (capL 1099511627776 (A ++ [dv Y f (j - f)])) ∧ Below w.heap.size w w2) := ⟨by rw [HC.out.1]; exact hr2, (al2' H1.out.2.1).trans (hg2.below (H1.out.1.alloc _) (by have := H1.out.2.1.size; simp; omega))⟩
                clear hr2 hg2
                go_roundw
                case rel => exact ⟨j + 1, j + 1, _, A ++ [dv Y f (j - f)], rfl, by go_num, by go_num, by omega, by rw [List.length_append]; simp; omega, HEnd.out, H2.out.1, H2.out.2⟩
                case measure => simp [intOf]; omega
        · have l2 : (i : Int) < (n : Int) := by omega
          have hg : ∀ hh : i < S.size, ((S[i]'hh).toNat : Int) = 46 := fun hh => by rw [HX.out.2.2.2.2 i hlt hh, h46]
          have HZero : Hid ((∃ A v, ast Y i = some (A, v, 0)) → arcsP Y = none) := by
            rintro ⟨A', v', h⟩
            refine arcsP_none (i := i + 1) (by have := HX.out.2.1; omega) ?_
            rw [ast_step h h46, if_pos rfl, if_neg (by omega)]
          have HE : Hid (ast Y i = some (A, dv Y f (i - f), i - f) → 0 < i - f → (i + 1 ≤ n ∧ (Good Y (i + 1) (i + 1) (A ++ [dv Y f (i - f)]) ∨ Doom Y (i + 1) (i + 1))) ∨ (i + 1 = n + 1 ∧ arcsP Y = some (A ++ [dv Y f (i - f)]))) := by
            intro h hk
            refine .inl ⟨by omega, .inl ⟨by omega, fun j h1 h2 => by omega, ?_⟩⟩
            rw [ast_step h h46, if_pos rfl, if_pos hk, Nat.sub_self]; rfl
          clear h46
          by_cases hfe : f = i
          · subst hfe
            have HN : Hid (arcsP Y = none) := HZero.out (by
              rcases HST.out with hg | hd
              · have := hg.2.2; rw [Nat.sub_self] at this; exact ⟨A, _, this⟩
              · exact absurd hd.1 (by omega))
            go_wp2
            go_ret2
            exact no.out HN.out _ _ H1.out.2.1 rfl
          have hfeb : ((i : Int) == (f : Int)) = false := by simp; omega
          obtain ⟨y, hy⟩ : ∃ y, Y.getD f 0 = y := ⟨_, rfl⟩
          have hgf : ∀ hh : f < S.size, ((S[f]'hh).toNat : Int) = y := fun hh => by rw [HX.out.2.2.2.2 f (by omega) hh, hy]
          have lfn : (f : Int) < (n : Int) := by omega
          have lf0 : (f : Int) ≤ 2001 := by omega
          by_cases hlead : y = 48 ∧ f + 1 < i
          · have HN : Hid (arcsP Y = none) := by
              rcases HST.out with hg | hd
              · obtain ⟨d, hd⟩ : ∃ d, i = f + 2 + d := ⟨i - f - 2, by omega⟩
                subst hd
                exact absurd (by rw [hy]; exact hlead.1) (good_lead d hg)
              · exact arcsP_none (by have := HX.out.2.1; omega) hd.2.2.2
            have y48 : (y == 48) = true := by simpa using hlead.1
            have lf1 : (f : Int) + 1 < (i : Int) := by omega
            clear hlead hy
            go_wp2
            go_ret2
            exact no.out HN.out _ _ H1.out.2.1 rfl
          have HG : Hid (Good Y f i A) := by
            rcases HST.out with hg | hd
            · exact hg
            · exact absurd ⟨by rw [← hy]; exact hd.2.2.1, hd.1⟩ hlead
          have hyc : (y == 48) = false ∨ ((y == 48) = true ∧ ¬ (f : Int) + 1 < (i : Int)) := by
            by_cases h : y = 48
            · right; exact ⟨by simpa using h, by intro h2; exact hlead ⟨h, by omega⟩⟩
            · left; simpa using h
          have HEnd : Hid ((i + 1 ≤ n ∧ (Good Y (i + 1) (i + 1) (A ++ [dv Y f (i - f)]) ∨ Doom Y (i + 1) (i + 1))) ∨ (i + 1 = n + 1 ∧ arcsP Y = some (A ++ [dv Y f (i - f)]))) := HE.out (by have := HG.out.2.2; exact this) (by omega)
          clear hlead hy
          rcases hyc with hyc | ⟨hyc, hyd⟩
          all_goals
            go_wp2_with fail
            go_loopw [7, 8] (fun vv kv wq => ∃ (j : Nat) (t : Int), vv = .int .i64 t ∧ kv = .int .i64 j ∧ f ≤ j ∧ j ≤ i ∧ t = capN 1099511627776 (dv Y f (j - f)) ∧ wr = wq) (fun _ kv _ => i - (intOf kv).toNat)
            case atStart => exact ⟨f, 0, rfl, rfl, by omega, by omega, by rw [Nat.sub_self]; rfl, rfl⟩
            case round =>
              obtain ⟨j, t, rfl, rfl, hfj, hji, ht, rfl⟩ := hrel
              have t0 : 0 ≤ t := by rw [ht]; unfold capN; omega
              have t1 : t ≤ 1099511627776 := by rw [ht]; unfold capN; omega
              have HT : Hid (t = capN 1099511627776 (dv Y f (j - f))) := ht
              clear ht
              by_cases hjl : j < i
              · have lj : (j : Int) < (i : Int) := by omega
                have ljn : (j : Int) < (n : Int) := by omega
                obtain ⟨z, hz⟩ : ∃ z, Y.getD j 0 = z := ⟨_, rfl⟩
                have hzd := HG.out.2.1 j hfj hjl
                rw [hz] at hzd
                have z0 := hzd.1
                have z1 := hzd.2
                have hgz : ∀ hh : j < S.size, ((S[j]'hh).toNat : Int) = z := fun hh => by rw [HX.out.2.2.2.2 j (by omega) hh, hz]
                obtain ⟨u, hu⟩ : ∃ u, z - 48 = u := ⟨_, rfl⟩
                have u0 : 0 ≤ u := by omega
                have u1 : u ≤ 9 := by omega
                obtain ⟨t2, ht2⟩ : ∃ t2, t * 10 + u = t2 := ⟨_, rfl⟩
                have t20 : 0 ≤ t2 := by omega
                have t21 : t2 ≤ 10995116277769 := by omega
                have HS2 : Hid ((t2 ≤ 1099511627776 → t2 = capN 1099511627776 (dv Y f (j + 1 - f))) ∧ (¬ t2 ≤ 1099511627776 → 1099511627776 = capN 1099511627776 (dv Y f (j + 1 - f)))) := by
                  have h1 := HT.out
                  rw [show j + 1 - f = (j - f) + 1 by omega]
                  have h2 : dv Y f (j - f + 1) = 10 * dv Y f (j - f) + (Y.getD (f + (j - f)) 0 - 48).toNat := rfl
                  rw [show f + (j - f) = j by omega, hz] at h2
                  rw [h2]
                  unfold capN at h1 ⊢
                  refine ⟨fun h => ?_, fun h => ?_⟩ <;> omega
                clear hz hzd
                by_cases qc : 1099511627776 < t2
                · go_wp2
                  go_roundw
                  case rel => exact ⟨j + 1, 1099511627776, rfl, by go_num, by omega, by omega, HS2.out.2 (by omega), trivial⟩
                  case measure => simp [intOf]; omega
                · go_wp2
                  go_roundw
                  case rel => exact ⟨j + 1, t2, rfl, by go_num, by omega, by omega, HS2.out.1 (by omega), trivial⟩
                  case measure => simp [intOf]; omega
              · obtain rfl : j = i := by omega
                have lj : ¬ (j : Int) < (j : Int) := by omega
                have HC : Hid (capL 1099511627776 (A ++ [dv Y f (j - f)]) = capL 1099511627776 A ++ [t] ∧ (capL 1099511627776 A).length ≤ 2001) := by
                  refine ⟨?_, ?_⟩
                  · unfold capL; rw [List.map_append, HT.out]; rfl
                  · unfold capL; rw [List.length_map]; omega
                go_wp2_with (at_builtin; refine wpList_ap rfl (.tmp 66) (.tmp 68) 91 91 rfl .i64 3 8 Tryd.undInt Tryd.infoInt (by decide) w.heap.size _ (capL 1099511627776 A) rfl (H1.out.1.alloc _) _ [_] rfl (src_sl Tryd.undInt (new_sl (k := .i64) [_] (0, 0))) (by have := HC.out.2; simp; omega) (by have := H1.out.2.1.size; simp; omega) ?_; intro v2 w2 hr2 hg2)
                have H2 : Hid (Row .i64 3 w.heap.size w2 v2 (capL 1099511627776 (A ++ [dv Y f (j - f)])) ∧ Below w.heap.size w w2) := ⟨by rw [HC.out.1]; exact hr2, (al2' H1.out.2.1).trans (hg2.below (H1.out.1.alloc _) (by have := H1.out.2.1.size; simp; omega))⟩
                clear hr2 hg2
                go_roundw
                case rel => exact ⟨j + 1, j + 1, _, A ++ [dv Y f (j - f)], rfl, by go_num, by go_num, by omega, by rw [List.length_append]; simp; omega, HEnd.out, H2.out.1, H2.out.2⟩
                case measure => simp [intOf]; omega
    · have l1 : ¬ (i : Int) ≤ (n : Int) := by omega
      obtain ⟨al, cl, hv⟩ := H1.out.1.ne
      obtain ⟨k, hk⟩ : ∃ k, A.length = k := ⟨_, rfl⟩
      have hCl : (capL 1099511627776 A).length = k := by unfold capL; rw [List.length_map]; exact hk
      rw [hCl] at hv
      subst hv
      have HP : Hid (arcsP Y = some A ∧ A.length = k) := ⟨hP, hk⟩
      have hk2 : k ≤ 2001 := by omega
      have fin : Hid (∀ (W : World) (e : Ending), (∀ B v X, Row .i64 3 B wr v X → Row .i64 3 B W v X) → Below w.heap.size w W → e = .returned (.tuple #[.slice al k cl, .bool (putOk A)]) → RArAns Y w.heap.size W e ∧ Below w.heap.size w W) := fun W e h hW he => ⟨.inl ⟨A, _, HP.out.1, he, h _ _ _ H1.out.1⟩, hW⟩
      have drw : Hid (∀ q B v X, Row .i64 3 B wr v X → Row .i64 3 B (wr.drewN q) v X) := fun q B v X h => h.below ⟨rfl, rfl, rfl, Nat.le_refl _, fun _ _ => rfl⟩
      clear hP hk
      by_cases h2 : k < 2
      · have h2I : ¬ (2 : Int) ≤ (k : Int) := by omega
        have hK : putOk A = false := by unfold putOk; rw [HP.out.2]; simp; omega
        have HK : Hid (putOk A = false) := hK
        clear hK hCl
        go_upto_region 20 with (fail)
        go_quiet (fail)
        go_wp2
        go_ret2
        exact fin.out _ _ (fun B v X h => drw.out _ B v X h) (below_drewN _ H1.out.2.1) (by rw [HK.out]; rfl)
      · obtain ⟨b1, S1, hv, hB1, hA1, hl1, ht1, hm1⟩ := H1.out.1.open k hCl (by omega)
        simp only [Value.slice.injEq] at hv
        obtain ⟨rfl, _, rfl⟩ := hv
        have hrd := hA1.rd 0 k (by omega)
        rw [List.drop_zero, ht1] at hrd
        obtain ⟨a0, ha0⟩ : ∃ a0, A.getD 0 0 = a0 := ⟨_, rfl⟩
        obtain ⟨a1, ha1⟩ : ∃ a1, A.getD 1 0 = a1 := ⟨_, rfl⟩
        obtain ⟨c0, hc0⟩ : ∃ c0, capN 1099511627776 a0 = c0 := ⟨_, rfl⟩
        obtain ⟨c1, hc1⟩ : ∃ c1, capN 1099511627776 a1 = c1 := ⟨_, rfl⟩
        have d0 : wr.cell? ⟨b1, 0, none⟩ = some (.int .i64 c0) := by
          have := hrd 0 (by omega)
          rw [capL_get, if_pos (by rw [HP.out.2]; omega), ha0, hc0] at this
          exact this
        have d1 : wr.cell? ⟨b1, 1, none⟩ = some (.int .i64 c1) := by
          have := hrd 1 (by omega)
          rw [capL_get, if_pos (by rw [HP.out.2]; omega), ha1, hc1] at this
          exact this
        have e0 : c0 = ((min a0 1099511627776 : Nat) : Int) := by rw [← hc0]; rfl
        have e1 : c1 = ((min a1 1099511627776 : Nat) : Int) := by rw [← hc1]; rfl
        have hK : putOk A = decide (c0 ≤ 2 ∧ (c0 = 2 ∨ c1 < 40)) := by
          unfold putOk
          rw [HP.out.2, ha0, ha1]
          congr 1
          rw [eq_iff_iff]
          omega
        have HK : Hid (putOk A = decide (c0 ≤ 2 ∧ (c0 = 2 ∨ c1 < 40))) := hK
        have h2I : (2 : Int) ≤ (k : Int) := by omega
        have h1I : (1 : Int) < (k : Int) := by omega
        clear hrd ha0 ha1 hc0 hc1 e0 e1 hK hA1 ht1 hm1 hB1 hCl
        by_cases p0 : c0 ≤ 2
        · by_cases p1 : c0 = 2
          · subst p1
            go_upto_region 20 with (fail)
            go_quiet (fail)
            go_wp2
            go_ret2
            exact fin.out _ _ (fun B v X h => drw.out _ B v X h) (below_drewN _ H1.out.2.1) (by rw [HK.out]; simp)
          · have p1b : (c0 == 2) = false := by simpa using p1
            by_cases p2 : c1 < 40
            · go_upto_region 20 with (fail)
              go_quiet (fail)
              go_wp2
              go_ret2
              exact fin.out _ _ (fun B v X h => drw.out _ B v X h) (below_drewN _ H1.out.2.1) (by rw [HK.out, show decide (c0 ≤ 2 ∧ (c0 = 2 ∨ c1 < 40)) = true by simp; omega]; rfl)
            · go_upto_region 20 with (fail)
              go_quiet (fail)
              go_wp2
              go_ret2
              exact fin.out _ _ (fun B v X h => drw.out _ B v X h) (below_drewN _ H1.out.2.1) (by rw [HK.out, show decide (c0 ≤ 2 ∧ (c0 = 2 ∨ c1 < 40)) = false by simp; omega]; rfl)
        · go_upto_region 20 with (fail)
          go_quiet (fail)
          go_wp2
          go_ret2
          exact fin.out _ _ (fun B v X h => drw.out _ B v X h) (below_drewN _ H1.out.2.1) (by rw [HK.out, show decide (c0 ≤ 2 ∧ (c0 = 2 ∨ c1 < 40)) = false by simp; omega]; rfl)
end Go.Proofs.YtndcpjnfdgojkaaDoor
