/-
  Policy: the law PolicyAsks.
-/
import Derived.Test.YtkjdihikcgpabaaDoorK23
namespace Go.Proofs.YtkjdihikcgpabaaDoor
open Go.RowKit Go.Sort Go.Lib
theorem steps_ok : ∀ (l : List Ce) (p q : Po) (k : Nat), PoOk p k → (∀ c ∈ l, CeOk c) → stepsP p l = some q → PoOk q (k + 200 * l.length)
  | [], p, q, k, h, _, e => by
    have : p = q := Option.some.inj e
    subst this
    exact h
  | c :: l, p, q, k, h, hc, e => by
    have e' : (if (stepP p c l.isEmpty).2 = true then stepsP (stepP p c l.isEmpty).1 l else none) = some q := e
    by_cases h2 : (stepP p c l.isEmpty).2 = true
    · rw [if_pos h2] at e'
      have := steps_ok l _ q (k + 200) (stepP_ok l.isEmpty h (hc c List.mem_cons_self)) (fun c' hc' => hc c' (List.mem_cons_of_mem _ hc')) e'
      rw [List.length_cons, show k + 200 * (l.length + 1) = k + 200 + 200 * l.length by omega]
      exact this
    · rw [if_neg h2] at e'; cases e'
theorem grant_len (S U : List Tx) : (grant S U).length ≤ S.length + U.length := by
  unfold grant
  split
  · have := srt_le S; omega
  · have h1 := srt_le (adm S U)
    have h2 := adm_len S U
    omega
theorem run_len (l : List Ce) (U : List Tx) (ex inh : Bool) (hl : l.length ≤ 30) (hc : ∀ c ∈ l, CeOk c) : (runP l U ex inh).1.length ≤ 10000 + U.length := by
  unfold runP
  cases l.getLast? with
  | none => simp
  | some c =>
    simp only []
    cases hs : stepsP (startP l.length ex inh) l with
    | none => simp
    | some p =>
      have h1 := (steps_ok l _ p 1 (startP_ok l.length ex inh) hc hs).1
      have h2 := grant_len p.S U
      show (if grant p.S U = [] ∧ (if c.r = 0 then (0 : Int) else less p.e) ≤ 0 then (([] : List Tx), false) else (grant p.S U, true)).1.length ≤ _
      by_cases h : grant p.S U = [] ∧ (if c.r = 0 then (0 : Int) else less p.e) ≤ 0
      · rw [if_pos h]; simp
      · rw [if_neg h]
        show (grant p.S U).length ≤ _
        omega
set_option maxRecDepth 20000 in
set_option maxHeartbeats 4000000 in
theorem PolicyAsks_any {w : World} (v : Value) (Z : List Bt) (u : Value) (U : List Tx) (s : Tx) (ex inh : Bool) (hv : BitS w v Z) (hu : TxS w u U) (hs : s.length ≤ maxLen) (hT : TabK w) :
    Calls Tryd.prog 6 #[v, u, encStr s, .bool ex, .bool inh] w fun e w' => e = .returned (.bool true) ∧ Below w.heap.size w w' := by
  have HL : Hid (∀ w1 : World, Calls Tryd.prog 10 #[] w1 fun e w' => e = .returned (.bool true) ∧ Below w1.heap.size w1 w') := fun w1 => live_any
  obtain ⟨g, hg⟩ : ∃ g, hugeB Z U = g := ⟨_, rfl⟩
  have hG := huge_any v u Z U hv hu
  rw [hg] at hG
  have HG : Hid (Calls Tryd.prog 11 #[v, u] w fun e w' => e = .returned (.bool g) ∧ Below w.heap.size w w') := hG
  cases g with
  | true =>
    clear hG hg hv hu hT hs
    go_enter Tryd.func6, Tryd.ntmps6
    go_wp2_with (first
      | (go_at_call 11; refine HG.out.mono ?_; rintro e w0 ⟨rfl, hb0⟩)
      | (go_at_call 10; refine (HL.out _).mono ?_; rintro e wl ⟨rfl, hbl⟩)
      | go_in)
    go_ret
    exact ⟨rfl, below_via hb0 hbl (Nat.le_refl _)⟩
  | false =>
    have hsm : Z.length ≤ 30 ∧ U.length ≤ 200 ∧ ∀ z ∈ Z, z.P.length ≤ 200 := by
      unfold hugeB at hg
      simp at hg
      exact ⟨by omega, by omega, fun z hz => by have := hg.2 z hz; omega⟩
    have hZ : BtsOk w Z := ⟨hsm.1, fun z hz => ⟨(hv.2 z hz).1, hsm.2.2 z hz, (hv.2 z hz).2.1, (hv.2 z hz).2.2⟩⟩
    have hCe : ∀ c ∈ Z.map ceOf, CeOk c := fun c hc => by
      obtain ⟨z, hz, rfl⟩ := List.mem_map.1 hc
      exact ⟨hsm.2.2 z hz, wf_in (hv.2 z hz).2.1, wf_in (hv.2 z hz).2.2⟩
    have HCh : Hid (∀ W : World, Below w.heap.size w W → Calls Tryd.prog 18 #[v] W fun e w' => ∃ r, e = .returned r ∧ CAs w' r Z ∧ Below W.heap.size W w') := fun W h => by
      refine (chain_any v Z (hv.below h) (by have := hsm.1; omega)).mono ?_
      rintro e w' ⟨r, Y, rfl, h1, h2, h3⟩
      exact ⟨r, rfl, ⟨Y, h1, h2⟩, h3⟩
    have hRun : ∀ (U' : List Tx) (u' : Value) (e i : Bool) (W : World) (r : Value), Below w.heap.size w W → CAs W r Z → TxS W u' U' → U'.length ≤ 200000 → Calls Tryd.prog 17 #[r, u', .bool e, .bool i] W fun ev w' => EndOut w' ev (runP (Z.map ceOf) U' e i) ∧ Below W.heap.size W w' := fun U' u' e i W r h1 h2 h3 h4 => Run_many r u' Z U' e i h2 (hZ.below h1) h3 h4 (hT.below h1)
    obtain ⟨ua, uc, rfl, _⟩ := hu.form
    obtain ⟨un, hun⟩ : ∃ un, un = U.length := ⟨_, rfl⟩
    rw [← hun] at hu HG hG ⊢
    obtain ⟨O1, hO1⟩ : ∃ O, runP (Z.map ceOf) U ex inh = O := ⟨_, rfl⟩
    obtain ⟨O2, hO2⟩ : ∃ O, runP (Z.map ceOf) U false inh = O := ⟨_, rfl⟩
    obtain ⟨O3, hO3⟩ : ∃ O, runP (Z.map ceOf) U ex false = O := ⟨_, rfl⟩
    obtain ⟨O4, hO4⟩ : ∃ O, runP (Z.map ceOf) (U ++ [s]) ex inh = O := ⟨_, rfl⟩
    obtain ⟨O5, hO5⟩ : ∃ O, runP (Z.map ceOf) [] ex inh = O := ⟨_, rfl⟩
    have HR1 : Hid (∀ (W : World) (r : Value), Below w.heap.size w W → CAs W r Z → Calls Tryd.prog 17 #[r, .slice ua un uc, .bool ex, .bool inh] W fun ev w' => EndOut w' ev O1 ∧ Below W.heap.size W w') := fun W r h1 h2 => by rw [← hO1]; exact hRun U _ ex inh W r h1 h2 (hu.below h1) (by omega)
    have HR2 : Hid (∀ (W : World) (r : Value), Below w.heap.size w W → CAs W r Z → Calls Tryd.prog 17 #[r, .slice ua un uc, .bool false, .bool inh] W fun ev w' => EndOut w' ev O2 ∧ Below W.heap.size W w') := fun W r h1 h2 => by rw [← hO2]; exact hRun U _ false inh W r h1 h2 (hu.below h1) (by omega)
    have HR3 : Hid (∀ (W : World) (r : Value), Below w.heap.size w W → CAs W r Z → Calls Tryd.prog 17 #[r, .slice ua un uc, .bool ex, .bool false] W fun ev w' => EndOut w' ev O3 ∧ Below W.heap.size W w') := fun W r h1 h2 => by rw [← hO3]; exact hRun U _ ex false W r h1 h2 (hu.below h1) (by omega)
    have HR4 : Hid (∀ (W : World) (r u' : Value), Below w.heap.size w W → CAs W r Z → TxS W u' (U ++ [s]) → Calls Tryd.prog 17 #[r, u', .bool ex, .bool inh] W fun ev w' => EndOut w' ev O4 ∧ Below W.heap.size W w') := fun W r u' h1 h2 h3 => by rw [← hO4]; exact hRun (U ++ [s]) u' ex inh W r h1 h2 h3 (by simp; omega)
    have HR5 : Hid (∀ (W : World) (r : Value), Below w.heap.size w W → CAs W r Z → Calls Tryd.prog 17 #[r, .slice none 0 0, .bool ex, .bool inh] W fun ev w' => EndOut w' ev O5 ∧ Below W.heap.size W w') := fun W r h1 h2 => by rw [← hO5]; exact hRun [] _ ex inh W r h1 h2 (TxS.nil _) (by simp)
    have hF : O1.2 = true → O2.2 = true ∧ O3.2 = true ∧ (U ≠ [] → O4.2 = true ∧ O5.2 = true) := fun h => by
      rw [← hO1] at h
      have hle : ∀ V : List Tx, AskLe U V → (runP (Z.map ceOf) V ex inh).2 = true := fun V hV => run_le _ (fun k => k) (fun k => k) hV h
      refine ⟨?_, ?_, fun hU => ⟨?_, ?_⟩⟩
      · rw [← hO2]
        exact run_le (ex := ex) (inh := inh) _ (fun k => by cases k) (fun k => k) (if hn : U = [] then .inl hn else .inr ⟨hn, fun _ k => k⟩) h
      · rw [← hO3]
        exact run_le (ex := ex) (inh := inh) _ (fun k => k) (fun k => by cases k) (if hn : U = [] then .inl hn else .inr ⟨hn, fun _ k => k⟩) h
      · rw [← hO4]
        exact hle _ (.inr ⟨hU, fun x hx => List.mem_append_left _ hx⟩)
      · rw [← hO5]
        exact hle _ (.inl rfl)
    have hNo : O1.2 = false → O1.1 = [] := fun h => by rw [← hO1] at h ⊢; exact run_no _ _ _ _ h
    have hIn : U ≠ [] → anyP ∉ U → ∀ x ∈ O1.1, x ∈ U := fun h1 h2 => by rw [← hO1]; exact run_in _ _ _ _ h1 h2
    have hLen : O1.1.length ≤ 524288 := by rw [← hO1]; have := run_len (Z.map ceOf) U ex inh (by rw [List.length_map]; exact hsm.1) hCe; omega
    have HU : Hid (TxS w (.slice ua un uc) U) := hu
    have HUl : Hid (U.length ≤ 200) := hsm.2.1
    have HUs : Hid (∀ t ∈ U ++ [s], t.length ≤ maxLen) := fun t ht => by
      rcases List.mem_append.1 ht with h | h
      · exact hu.2 t h
      · rw [List.mem_singleton.1 h]; exact hs
    have HhT : Hid (anyP ∈ U → ∀ W : World, Below w.heap.size w W → Calls Tryd.prog 19 #[.slice ua un uc, encStr anyP] W fun e w' => e = .returned (.bool true) ∧ Below W.heap.size W w') := fun hm W h => by
      have := hasL_any (w := W) _ U anyP (hu.below h) (by omega)
      rw [decide_eq_true hm] at this
      exact this
    have HhF : Hid (anyP ∉ U → ∀ W : World, Below w.heap.size w W → Calls Tryd.prog 19 #[.slice ua un uc, encStr anyP] W fun e w' => e = .returned (.bool false) ∧ Below W.heap.size W w') := fun hm W h => by
      have := hasL_any (w := W) _ U anyP (hu.below h) (by omega)
      rw [decide_eq_false hm] at this
      exact this
    have HAm : Hid (U ≠ [] → anyP ∉ U → ∀ (W : World) (xv : Value), Below w.heap.size w W → TxS W xv O1.1 → Calls Tryd.prog 20 #[xv, .slice ua un uc] W fun e w' => e = .returned (.bool true) ∧ Below W.heap.size W w') := fun h1 h2 W xv h h3 => among_any xv _ O1.1 U h3 (hu.below h) hLen (by omega) (hIn h1 h2)
    have HXL0 : ∃ xn, xn = O1.1.length := ⟨_, rfl⟩
    obtain ⟨xn, hxn⟩ := HXL0
    have HXL : Hid (∀ (W : World) (r : Value), TxS W r O1.1 → ∃ a c, r = .slice a xn c) := fun W r h => by obtain ⟨a, c, h1, _⟩ := h.form; exact ⟨a, c, by rw [h1, hxn]⟩
    have hnU : U = [] ↔ un = 0 := by rw [hun]; exact ⟨fun h => by rw [h]; rfl, fun h => List.eq_nil_of_length_eq_zero h⟩
    clear hO1 hO2 hO3 hO4 hO5 hRun hLen hIn hCe hZ hsm hG hg hv hu hT hs hun
    obtain ⟨l1, b1⟩ := O1
    obtain ⟨l2, b2⟩ := O2
    obtain ⟨l3, b3⟩ := O3
    obtain ⟨l4, b4⟩ := O4
    obtain ⟨l5, b5⟩ := O5
    simp only [] at hF hNo HXL HAm hxn
    cases b1 with
    | true =>
      obtain ⟨rfl, rfl, hF9⟩ := hF rfl
      clear hF hNo hxn
      by_cases hn : un = 0
      · subst hn
        clear hF9 hnU HhT HhF HAm HR4 HR5
        have H0 : Hid (Below w.heap.size w w) := Below.refl _ _
        go_enter Tryd.func6, Tryd.ntmps6
        go_upto_region 4 with (first
          | (go_at_call 11; refine HG.out.mono ?_; rintro e w0 ⟨rfl, hb0⟩)
          | (go_at_call 18; refine (HCh.out _ hb0).mono ?_; rintro e wc ⟨rc, rfl, hcc, hbc⟩; have HcB : Hid (Below w.heap.size w wc) := below_via hb0 hbc (Nat.le_refl _))
          | (go_at_call 17; refine (HR1.out wc rc HcB.out hcc).mono ?_; rintro e wr ⟨⟨r1, rfl, hrr⟩, hbr⟩)
          | go_in)
        obtain ⟨xa, xc, rfl⟩ := HXL.out wr r1 hrr
        have H1 : Hid (Below w.heap.size w wr ∧ TxS wr (.slice xa xn xc) l1) := ⟨below_via HcB.out hbr (Nat.le_refl _), hrr⟩
        clear hrr hbr hcc hbc HcB hb0
        go_upto_region 5 with (first
          | (go_at_call 18; refine (HCh.out _ H1.out.1).mono ?_; rintro e wc ⟨rc, rfl, hcc, hbc⟩; have HcB : Hid (Below w.heap.size w wc) := below_via H1.out.1 hbc (Nat.le_refl _))
          | (go_at_call 17; refine (HR2.out wc rc HcB.out hcc).mono ?_; rintro e wr ⟨⟨qH2, rfl, hrr⟩, hbr⟩)
          | go_in)
        have H2 : Hid (Below w.heap.size w wr ∧ TxS wr (.slice xa xn xc) l1) := ⟨below_via HcB.out hbr (Nat.le_refl _), (H1.out.2.below hbc).below hbr⟩
        clear hrr hbr hcc hbc HcB H1
        go_upto_region 6 with (first
          | (go_at_call 18; refine (HCh.out _ H2.out.1).mono ?_; rintro e wc ⟨rc, rfl, hcc, hbc⟩; have HcB : Hid (Below w.heap.size w wc) := below_via H2.out.1 hbc (Nat.le_refl _))
          | (go_at_call 17; refine (HR3.out wc rc HcB.out hcc).mono ?_; rintro e wr ⟨⟨qH3, rfl, hrr⟩, hbr⟩)
          | go_in)
        have H3 : Hid (Below w.heap.size w wr ∧ TxS wr (.slice xa xn xc) l1) := ⟨below_via HcB.out hbr (Nat.le_refl _), (H2.out.2.below hbc).below hbr⟩
        clear hrr hbr hcc hbc HcB H2
        go_wp2_with (first
          | (go_at_call 10; refine (HL.out _).mono ?_; rintro e wl ⟨rfl, hbl⟩)
          | go_in)
        go_ret
        exact ⟨rfl, below_via H3.out.1 hbl (Nat.le_refl _)⟩
      · have hU : U ≠ [] := fun h => hn (hnU.1 h)
        obtain ⟨rfl, rfl⟩ := hF9 hU
        clear hF9
        have hnp : (0 : Int) < (un : Int) := by omega
        have hnN : 0 < un := by omega
        have HAm := HAm.out hU
        clear hnU
        by_cases hm : anyP ∈ U
        · have HhT : Hid (∀ W : World, Below w.heap.size w W → Calls Tryd.prog 19 #[.slice ua un uc, encStr anyP] W fun e w' => e = .returned (.bool true) ∧ Below W.heap.size W w') := HhT.out hm
          clear hm HhF HAm hU
          have H0 : Hid (Below w.heap.size w w) := Below.refl _ _
          go_enter Tryd.func6, Tryd.ntmps6
          go_upto_region 4 with (first
            | (go_at_call 11; refine HG.out.mono ?_; rintro e w0 ⟨rfl, hb0⟩)
            | (go_at_call 18; refine (HCh.out _ hb0).mono ?_; rintro e wc ⟨rc, rfl, hcc, hbc⟩; have HcB : Hid (Below w.heap.size w wc) := below_via hb0 hbc (Nat.le_refl _))
            | (go_at_call 17; refine (HR1.out wc rc HcB.out hcc).mono ?_; rintro e wr ⟨⟨r1, rfl, hrr⟩, hbr⟩)
            | go_in)
          obtain ⟨xa, xc, rfl⟩ := HXL.out wr r1 hrr
          have H1 : Hid (Below w.heap.size w wr ∧ TxS wr (.slice xa xn xc) l1) := ⟨below_via HcB.out hbr (Nat.le_refl _), hrr⟩
          clear hrr hbr hcc hbc HcB hb0
          go_upto_region 5 with (first
            | (go_at_call 18; refine (HCh.out _ H1.out.1).mono ?_; rintro e wc ⟨rc, rfl, hcc, hbc⟩; have HcB : Hid (Below w.heap.size w wc) := below_via H1.out.1 hbc (Nat.le_refl _))
            | (go_at_call 17; refine (HR2.out wc rc HcB.out hcc).mono ?_; rintro e wr ⟨⟨qH2, rfl, hrr⟩, hbr⟩)
            | go_in)
          have H2 : Hid (Below w.heap.size w wr ∧ TxS wr (.slice xa xn xc) l1) := ⟨below_via HcB.out hbr (Nat.le_refl _), (H1.out.2.below hbc).below hbr⟩
          clear hrr hbr hcc hbc HcB H1
          go_upto_region 6 with (first
            | (go_at_call 18; refine (HCh.out _ H2.out.1).mono ?_; rintro e wc ⟨rc, rfl, hcc, hbc⟩; have HcB : Hid (Below w.heap.size w wc) := below_via H2.out.1 hbc (Nat.le_refl _))
            | (go_at_call 17; refine (HR3.out wc rc HcB.out hcc).mono ?_; rintro e wr ⟨⟨qH3, rfl, hrr⟩, hbr⟩)
            | go_in)
          have H3 : Hid (Below w.heap.size w wr ∧ TxS wr (.slice xa xn xc) l1) := ⟨below_via HcB.out hbr (Nat.le_refl _), (H2.out.2.below hbc).below hbr⟩
          clear hrr hbr hcc hbc HcB H2
          go_upto_region 9 with (fail)
          go_upto_region 10 with (first
            | (go_at_call 18; refine (HCh.out _ H3.out.1).mono ?_; rintro e wc ⟨rc, rfl, hcc, hbc⟩; have HcB : Hid (Below w.heap.size w wc ∧ TxS wc (.slice xa xn xc) l1 ∧ CAs wc rc Z) := ⟨below_via H3.out.1 hbc (Nat.le_refl _), H3.out.2.below hbc, hcc⟩; have HV0 : Hid (VRow 9 wc.heap.size (wc.alloc (.cells #[] 9)) (.slice (some ⟨wc.heap.size, 0, none⟩) 0 0) []) := .inr ⟨wc.heap.size, [], rfl, Nat.le_refl _, Blk.new 9 wc [], Nat.le_refl _, rfl, by simp⟩)
            | (at_builtin; refine wpList_apv rfl (.tmp 65) (.tmp 66) 23 23 rfl (.string ⟨#[]⟩) rfl 9 16 Tryd.undX Tryd.infoX (by decide) wc.heap.size (.slice (some ⟨wc.heap.size, 0, none⟩) 0 0) [] rfl HV0.out (.slice ua un uc) (U.map encStr) rfl (by have h9 := ((HU.out.below HcB.out.1).below ((Below.refl _ _).alloc (Nat.le_refl _) (.cells #[] 9))).src (t := 23) Tryd.undX; rw [List.length_map]; exact h9) (by have := HUl.out; simp; omega) (by simp) ?_; intro v2 w2 hV2 hG2; have HB2 : Hid (Below wc.heap.size wc w2) := ((Below.refl wc.heap.size wc).alloc (Nat.le_refl _) _).trans (hG2.below HV0.out (by simp)))
            | (at_builtin; refine wpList_apv rfl (.tmp 67) (.tmp 69) 23 23 rfl (.string ⟨#[]⟩) rfl 9 16 Tryd.undX Tryd.infoX (by decide) wc.heap.size v2 ([] ++ U.map encStr) rfl (hV2.alloc _) _ [encStr s] rfl (src_oneP (T := 9) (blk_nwP rfl rfl) rfl) (by have := HUl.out; simp; omega) (HB2.out.alloc HB2.out.size (.cells #[encStr s] 9)).size ?_; intro v3 w3 hV3 hG3; have HB3 : Hid (Below wc.heap.size wc w3 ∧ TxS w3 v3 (U ++ [s])) := ⟨(HB2.out.alloc HB2.out.size _).trans (hG3.below (hV2.alloc _) (HB2.out.alloc HB2.out.size _).size), VRow.tx (L := U ++ [s]) (B := wc.heap.size) (by rw [List.map_append]; exact hV3) HUs.out⟩)
            | (go_at_call 17; refine (HR4.out w3 rc v3 (below_via HcB.out.1 HB3.out.1 (Nat.le_refl _)) (HcB.out.2.2.below HB3.out.1) HB3.out.2).mono ?_; rintro e wr ⟨⟨q4, rfl, hrr⟩, hbr⟩)
            | go_in)
          have H4 : Hid (Below w.heap.size w wr ∧ TxS wr (.slice xa xn xc) l1) := ⟨below_via (below_via HcB.out.1 HB3.out.1 (Nat.le_refl _)) hbr (Nat.le_refl _), (HcB.out.2.1.below HB3.out.1).below hbr⟩
          clear hrr hbr hcc hbc HcB H3 hV2 hG2 hV3 hG3 HB2 HB3 HV0
          go_upto_region 11 with (first
            | (go_at_call 18; refine (HCh.out _ H4.out.1).mono ?_; rintro e wc ⟨rc, rfl, hcc, hbc⟩; have HcB : Hid (Below w.heap.size w wc) := below_via H4.out.1 hbc (Nat.le_refl _))
            | (go_at_call 17; refine (HR5.out wc rc HcB.out hcc).mono ?_; rintro e wr ⟨⟨q5, rfl, hrr⟩, hbr⟩)
            | go_in)
          have H5 : Hid (Below w.heap.size w wr ∧ TxS wr (.slice xa xn xc) l1) := ⟨below_via HcB.out hbr (Nat.le_refl _), (H4.out.2.below hbc).below hbr⟩
          clear hrr hbr hcc hbc HcB H4
          go_wp2_with (first
            | (go_at_call 19; refine (HhT.out _ H5.out.1).mono ?_; rintro e wh ⟨rfl, hbh⟩; have H6 : Hid (Below w.heap.size w wh ∧ TxS wh (.slice xa xn xc) l1) := ⟨below_via H5.out.1 hbh (Nat.le_refl _), H5.out.2.below hbh⟩)
            | (go_at_call 10; refine (HL.out _).mono ?_; rintro e wl ⟨rfl, hbl⟩)
            | go_in)
          go_ret
          exact ⟨rfl, below_via H6.out.1 hbl (Nat.le_refl _)⟩
        · have HhF : Hid (∀ W : World, Below w.heap.size w W → Calls Tryd.prog 19 #[.slice ua un uc, encStr anyP] W fun e w' => e = .returned (.bool false) ∧ Below W.heap.size W w') := HhF.out hm
          have HAm : Hid (∀ (W : World) {xv : Value}, Below w.heap.size w W → TxS W xv l1 → Calls Tryd.prog 20 #[xv, .slice ua un uc] W fun e w' => e = .returned (.bool true) ∧ Below W.heap.size W w') := fun W xv h1 h2 => HAm hm W xv h1 h2
          clear hm HhT hU
          have H0 : Hid (Below w.heap.size w w) := Below.refl _ _
          go_enter Tryd.func6, Tryd.ntmps6
          go_upto_region 4 with (first
            | (go_at_call 11; refine HG.out.mono ?_; rintro e w0 ⟨rfl, hb0⟩)
            | (go_at_call 18; refine (HCh.out _ hb0).mono ?_; rintro e wc ⟨rc, rfl, hcc, hbc⟩; have HcB : Hid (Below w.heap.size w wc) := below_via hb0 hbc (Nat.le_refl _))
            | (go_at_call 17; refine (HR1.out wc rc HcB.out hcc).mono ?_; rintro e wr ⟨⟨r1, rfl, hrr⟩, hbr⟩)
            | go_in)
          obtain ⟨xa, xc, rfl⟩ := HXL.out wr r1 hrr
          have H1 : Hid (Below w.heap.size w wr ∧ TxS wr (.slice xa xn xc) l1) := ⟨below_via HcB.out hbr (Nat.le_refl _), hrr⟩
          clear hrr hbr hcc hbc HcB hb0
          go_upto_region 5 with (first
            | (go_at_call 18; refine (HCh.out _ H1.out.1).mono ?_; rintro e wc ⟨rc, rfl, hcc, hbc⟩; have HcB : Hid (Below w.heap.size w wc) := below_via H1.out.1 hbc (Nat.le_refl _))
            | (go_at_call 17; refine (HR2.out wc rc HcB.out hcc).mono ?_; rintro e wr ⟨⟨qH2, rfl, hrr⟩, hbr⟩)
            | go_in)
          have H2 : Hid (Below w.heap.size w wr ∧ TxS wr (.slice xa xn xc) l1) := ⟨below_via HcB.out hbr (Nat.le_refl _), (H1.out.2.below hbc).below hbr⟩
          clear hrr hbr hcc hbc HcB H1
          go_upto_region 6 with (first
            | (go_at_call 18; refine (HCh.out _ H2.out.1).mono ?_; rintro e wc ⟨rc, rfl, hcc, hbc⟩; have HcB : Hid (Below w.heap.size w wc) := below_via H2.out.1 hbc (Nat.le_refl _))
            | (go_at_call 17; refine (HR3.out wc rc HcB.out hcc).mono ?_; rintro e wr ⟨⟨qH3, rfl, hrr⟩, hbr⟩)
            | go_in)
          have H3 : Hid (Below w.heap.size w wr ∧ TxS wr (.slice xa xn xc) l1) := ⟨below_via HcB.out hbr (Nat.le_refl _), (H2.out.2.below hbc).below hbr⟩
          clear hrr hbr hcc hbc HcB H2
          go_upto_region 9 with (fail)
          go_upto_region 10 with (first
            | (go_at_call 18; refine (HCh.out _ H3.out.1).mono ?_; rintro e wc ⟨rc, rfl, hcc, hbc⟩; have HcB : Hid (Below w.heap.size w wc ∧ TxS wc (.slice xa xn xc) l1 ∧ CAs wc rc Z) := ⟨below_via H3.out.1 hbc (Nat.le_refl _), H3.out.2.below hbc, hcc⟩; have HV0 : Hid (VRow 9 wc.heap.size (wc.alloc (.cells #[] 9)) (.slice (some ⟨wc.heap.size, 0, none⟩) 0 0) []) := .inr ⟨wc.heap.size, [], rfl, Nat.le_refl _, Blk.new 9 wc [], Nat.le_refl _, rfl, by simp⟩)
            | (at_builtin; refine wpList_apv rfl (.tmp 65) (.tmp 66) 23 23 rfl (.string ⟨#[]⟩) rfl 9 16 Tryd.undX Tryd.infoX (by decide) wc.heap.size (.slice (some ⟨wc.heap.size, 0, none⟩) 0 0) [] rfl HV0.out (.slice ua un uc) (U.map encStr) rfl (by have h9 := ((HU.out.below HcB.out.1).below ((Below.refl _ _).alloc (Nat.le_refl _) (.cells #[] 9))).src (t := 23) Tryd.undX; rw [List.length_map]; exact h9) (by have := HUl.out; simp; omega) (by simp) ?_; intro v2 w2 hV2 hG2; have HB2 : Hid (Below wc.heap.size wc w2) := ((Below.refl wc.heap.size wc).alloc (Nat.le_refl _) _).trans (hG2.below HV0.out (by simp)))
            | (at_builtin; refine wpList_apv rfl (.tmp 67) (.tmp 69) 23 23 rfl (.string ⟨#[]⟩) rfl 9 16 Tryd.undX Tryd.infoX (by decide) wc.heap.size v2 ([] ++ U.map encStr) rfl (hV2.alloc _) _ [encStr s] rfl (src_oneP (T := 9) (blk_nwP rfl rfl) rfl) (by have := HUl.out; simp; omega) (HB2.out.alloc HB2.out.size (.cells #[encStr s] 9)).size ?_; intro v3 w3 hV3 hG3; have HB3 : Hid (Below wc.heap.size wc w3 ∧ TxS w3 v3 (U ++ [s])) := ⟨(HB2.out.alloc HB2.out.size _).trans (hG3.below (hV2.alloc _) (HB2.out.alloc HB2.out.size _).size), VRow.tx (L := U ++ [s]) (B := wc.heap.size) (by rw [List.map_append]; exact hV3) HUs.out⟩)
            | (go_at_call 17; refine (HR4.out w3 rc v3 (below_via HcB.out.1 HB3.out.1 (Nat.le_refl _)) (HcB.out.2.2.below HB3.out.1) HB3.out.2).mono ?_; rintro e wr ⟨⟨q4, rfl, hrr⟩, hbr⟩)
            | go_in)
          have H4 : Hid (Below w.heap.size w wr ∧ TxS wr (.slice xa xn xc) l1) := ⟨below_via (below_via HcB.out.1 HB3.out.1 (Nat.le_refl _)) hbr (Nat.le_refl _), (HcB.out.2.1.below HB3.out.1).below hbr⟩
          clear hrr hbr hcc hbc HcB H3 hV2 hG2 hV3 hG3 HB2 HB3 HV0
          go_upto_region 11 with (first
            | (go_at_call 18; refine (HCh.out _ H4.out.1).mono ?_; rintro e wc ⟨rc, rfl, hcc, hbc⟩; have HcB : Hid (Below w.heap.size w wc) := below_via H4.out.1 hbc (Nat.le_refl _))
            | (go_at_call 17; refine (HR5.out wc rc HcB.out hcc).mono ?_; rintro e wr ⟨⟨q5, rfl, hrr⟩, hbr⟩)
            | go_in)
          have H5 : Hid (Below w.heap.size w wr ∧ TxS wr (.slice xa xn xc) l1) := ⟨below_via HcB.out hbr (Nat.le_refl _), (H4.out.2.below hbc).below hbr⟩
          clear hrr hbr hcc hbc HcB H4
          go_wp2_with (first
            | (go_at_call 19; refine (HhF.out _ H5.out.1).mono ?_; rintro e wh ⟨rfl, hbh⟩; have H6 : Hid (Below w.heap.size w wh ∧ TxS wh (.slice xa xn xc) l1) := ⟨below_via H5.out.1 hbh (Nat.le_refl _), H5.out.2.below hbh⟩)
            | (go_at_call 20; refine (HAm.out _ H6.out.1 H6.out.2).mono ?_; rintro e wa ⟨rfl, hba⟩; have H7 : Hid (Below w.heap.size w wa) := below_via H6.out.1 hba (Nat.le_refl _))
            | (go_at_call 10; refine (HL.out _).mono ?_; rintro e wl ⟨rfl, hbl⟩)
            | go_in)
          go_ret
          exact ⟨rfl, below_via H7.out hbl (Nat.le_refl _)⟩
    | false =>
      obtain rfl : l1 = [] := hNo rfl
      obtain rfl : xn = 0 := hxn
      clear hNo hF
      by_cases hn : un = 0
      · subst hn
        clear hnU HhT HhF HAm HR4 HR5
        have H0 : Hid (Below w.heap.size w w) := Below.refl _ _
        go_enter Tryd.func6, Tryd.ntmps6
        go_upto_region 4 with (first
          | (go_at_call 11; refine HG.out.mono ?_; rintro e w0 ⟨rfl, hb0⟩)
          | (go_at_call 18; refine (HCh.out _ hb0).mono ?_; rintro e wc ⟨rc, rfl, hcc, hbc⟩; have HcB : Hid (Below w.heap.size w wc) := below_via hb0 hbc (Nat.le_refl _))
          | (go_at_call 17; refine (HR1.out wc rc HcB.out hcc).mono ?_; rintro e wr ⟨⟨r1, rfl, hrr⟩, hbr⟩)
          | go_in)
        obtain ⟨xa, xc, rfl⟩ := HXL.out wr r1 hrr
        have H1 : Hid (Below w.heap.size w wr ∧ TxS wr (.slice xa 0 xc) []) := ⟨below_via HcB.out hbr (Nat.le_refl _), hrr⟩
        clear hrr hbr hcc hbc HcB hb0
        go_upto_region 5 with (first
          | (go_at_call 18; refine (HCh.out _ H1.out.1).mono ?_; rintro e wc ⟨rc, rfl, hcc, hbc⟩; have HcB : Hid (Below w.heap.size w wc) := below_via H1.out.1 hbc (Nat.le_refl _))
          | (go_at_call 17; refine (HR2.out wc rc HcB.out hcc).mono ?_; rintro e wr ⟨⟨qH2, rfl, hrr⟩, hbr⟩)
          | go_in)
        have H2 : Hid (Below w.heap.size w wr ∧ TxS wr (.slice xa 0 xc) []) := ⟨below_via HcB.out hbr (Nat.le_refl _), (H1.out.2.below hbc).below hbr⟩
        clear hrr hbr hcc hbc HcB H1
        go_upto_region 6 with (first
          | (go_at_call 18; refine (HCh.out _ H2.out.1).mono ?_; rintro e wc ⟨rc, rfl, hcc, hbc⟩; have HcB : Hid (Below w.heap.size w wc) := below_via H2.out.1 hbc (Nat.le_refl _))
          | (go_at_call 17; refine (HR3.out wc rc HcB.out hcc).mono ?_; rintro e wr ⟨⟨qH3, rfl, hrr⟩, hbr⟩)
          | go_in)
        have H3 : Hid (Below w.heap.size w wr ∧ TxS wr (.slice xa 0 xc) []) := ⟨below_via HcB.out hbr (Nat.le_refl _), (H2.out.2.below hbc).below hbr⟩
        clear hrr hbr hcc hbc HcB H2
        go_wp2_with (first
          | (go_at_call 10; refine (HL.out _).mono ?_; rintro e wl ⟨rfl, hbl⟩)
          | go_in)
        go_ret
        exact ⟨rfl, below_via H3.out.1 hbl (Nat.le_refl _)⟩
      · have hU : U ≠ [] := fun h => hn (hnU.1 h)
        have hnp : (0 : Int) < (un : Int) := by omega
        have hnN : 0 < un := by omega
        have HAm := HAm.out hU
        clear hnU
        by_cases hm : anyP ∈ U
        · have HhT : Hid (∀ W : World, Below w.heap.size w W → Calls Tryd.prog 19 #[.slice ua un uc, encStr anyP] W fun e w' => e = .returned (.bool true) ∧ Below W.heap.size W w') := HhT.out hm
          clear hm HhF HAm hU
          have H0 : Hid (Below w.heap.size w w) := Below.refl _ _
          go_enter Tryd.func6, Tryd.ntmps6
          go_upto_region 4 with (first
            | (go_at_call 11; refine HG.out.mono ?_; rintro e w0 ⟨rfl, hb0⟩)
            | (go_at_call 18; refine (HCh.out _ hb0).mono ?_; rintro e wc ⟨rc, rfl, hcc, hbc⟩; have HcB : Hid (Below w.heap.size w wc) := below_via hb0 hbc (Nat.le_refl _))
            | (go_at_call 17; refine (HR1.out wc rc HcB.out hcc).mono ?_; rintro e wr ⟨⟨r1, rfl, hrr⟩, hbr⟩)
            | go_in)
          obtain ⟨xa, xc, rfl⟩ := HXL.out wr r1 hrr
          have H1 : Hid (Below w.heap.size w wr ∧ TxS wr (.slice xa 0 xc) []) := ⟨below_via HcB.out hbr (Nat.le_refl _), hrr⟩
          clear hrr hbr hcc hbc HcB hb0
          go_upto_region 5 with (first
            | (go_at_call 18; refine (HCh.out _ H1.out.1).mono ?_; rintro e wc ⟨rc, rfl, hcc, hbc⟩; have HcB : Hid (Below w.heap.size w wc) := below_via H1.out.1 hbc (Nat.le_refl _))
            | (go_at_call 17; refine (HR2.out wc rc HcB.out hcc).mono ?_; rintro e wr ⟨⟨qH2, rfl, hrr⟩, hbr⟩)
            | go_in)
          have H2 : Hid (Below w.heap.size w wr ∧ TxS wr (.slice xa 0 xc) []) := ⟨below_via HcB.out hbr (Nat.le_refl _), (H1.out.2.below hbc).below hbr⟩
          clear hrr hbr hcc hbc HcB H1
          go_upto_region 6 with (first
            | (go_at_call 18; refine (HCh.out _ H2.out.1).mono ?_; rintro e wc ⟨rc, rfl, hcc, hbc⟩; have HcB : Hid (Below w.heap.size w wc) := below_via H2.out.1 hbc (Nat.le_refl _))
            | (go_at_call 17; refine (HR3.out wc rc HcB.out hcc).mono ?_; rintro e wr ⟨⟨qH3, rfl, hrr⟩, hbr⟩)
            | go_in)
          have H3 : Hid (Below w.heap.size w wr ∧ TxS wr (.slice xa 0 xc) []) := ⟨below_via HcB.out hbr (Nat.le_refl _), (H2.out.2.below hbc).below hbr⟩
          clear hrr hbr hcc hbc HcB H2
          go_upto_region 9 with (fail)
          go_upto_region 10 with (first
            | (go_at_call 18; refine (HCh.out _ H3.out.1).mono ?_; rintro e wc ⟨rc, rfl, hcc, hbc⟩; have HcB : Hid (Below w.heap.size w wc ∧ TxS wc (.slice xa 0 xc) [] ∧ CAs wc rc Z) := ⟨below_via H3.out.1 hbc (Nat.le_refl _), H3.out.2.below hbc, hcc⟩; have HV0 : Hid (VRow 9 wc.heap.size (wc.alloc (.cells #[] 9)) (.slice (some ⟨wc.heap.size, 0, none⟩) 0 0) []) := .inr ⟨wc.heap.size, [], rfl, Nat.le_refl _, Blk.new 9 wc [], Nat.le_refl _, rfl, by simp⟩)
            | (at_builtin; refine wpList_apv rfl (.tmp 65) (.tmp 66) 23 23 rfl (.string ⟨#[]⟩) rfl 9 16 Tryd.undX Tryd.infoX (by decide) wc.heap.size (.slice (some ⟨wc.heap.size, 0, none⟩) 0 0) [] rfl HV0.out (.slice ua un uc) (U.map encStr) rfl (by have h9 := ((HU.out.below HcB.out.1).below ((Below.refl _ _).alloc (Nat.le_refl _) (.cells #[] 9))).src (t := 23) Tryd.undX; rw [List.length_map]; exact h9) (by have := HUl.out; simp; omega) (by simp) ?_; intro v2 w2 hV2 hG2; have HB2 : Hid (Below wc.heap.size wc w2) := ((Below.refl wc.heap.size wc).alloc (Nat.le_refl _) _).trans (hG2.below HV0.out (by simp)))
            | (at_builtin; refine wpList_apv rfl (.tmp 67) (.tmp 69) 23 23 rfl (.string ⟨#[]⟩) rfl 9 16 Tryd.undX Tryd.infoX (by decide) wc.heap.size v2 ([] ++ U.map encStr) rfl (hV2.alloc _) _ [encStr s] rfl (src_oneP (T := 9) (blk_nwP rfl rfl) rfl) (by have := HUl.out; simp; omega) (HB2.out.alloc HB2.out.size (.cells #[encStr s] 9)).size ?_; intro v3 w3 hV3 hG3; have HB3 : Hid (Below wc.heap.size wc w3 ∧ TxS w3 v3 (U ++ [s])) := ⟨(HB2.out.alloc HB2.out.size _).trans (hG3.below (hV2.alloc _) (HB2.out.alloc HB2.out.size _).size), VRow.tx (L := U ++ [s]) (B := wc.heap.size) (by rw [List.map_append]; exact hV3) HUs.out⟩)
            | (go_at_call 17; refine (HR4.out w3 rc v3 (below_via HcB.out.1 HB3.out.1 (Nat.le_refl _)) (HcB.out.2.2.below HB3.out.1) HB3.out.2).mono ?_; rintro e wr ⟨⟨q4, rfl, hrr⟩, hbr⟩)
            | go_in)
          have H4 : Hid (Below w.heap.size w wr ∧ TxS wr (.slice xa 0 xc) []) := ⟨below_via (below_via HcB.out.1 HB3.out.1 (Nat.le_refl _)) hbr (Nat.le_refl _), (HcB.out.2.1.below HB3.out.1).below hbr⟩
          clear hrr hbr hcc hbc HcB H3 hV2 hG2 hV3 hG3 HB2 HB3 HV0
          go_upto_region 11 with (first
            | (go_at_call 18; refine (HCh.out _ H4.out.1).mono ?_; rintro e wc ⟨rc, rfl, hcc, hbc⟩; have HcB : Hid (Below w.heap.size w wc) := below_via H4.out.1 hbc (Nat.le_refl _))
            | (go_at_call 17; refine (HR5.out wc rc HcB.out hcc).mono ?_; rintro e wr ⟨⟨q5, rfl, hrr⟩, hbr⟩)
            | go_in)
          have H5 : Hid (Below w.heap.size w wr ∧ TxS wr (.slice xa 0 xc) []) := ⟨below_via HcB.out hbr (Nat.le_refl _), (H4.out.2.below hbc).below hbr⟩
          clear hrr hbr hcc hbc HcB H4
          go_wp2_with (first
            | (go_at_call 19; refine (HhT.out _ H5.out.1).mono ?_; rintro e wh ⟨rfl, hbh⟩; have H6 : Hid (Below w.heap.size w wh ∧ TxS wh (.slice xa 0 xc) []) := ⟨below_via H5.out.1 hbh (Nat.le_refl _), H5.out.2.below hbh⟩)
            | (go_at_call 10; refine (HL.out _).mono ?_; rintro e wl ⟨rfl, hbl⟩)
            | go_in)
          go_ret
          exact ⟨rfl, below_via H6.out.1 hbl (Nat.le_refl _)⟩
        · have HhF : Hid (∀ W : World, Below w.heap.size w W → Calls Tryd.prog 19 #[.slice ua un uc, encStr anyP] W fun e w' => e = .returned (.bool false) ∧ Below W.heap.size W w') := HhF.out hm
          have HAm : Hid (∀ (W : World) {xv : Value}, Below w.heap.size w W → TxS W xv [] → Calls Tryd.prog 20 #[xv, .slice ua un uc] W fun e w' => e = .returned (.bool true) ∧ Below W.heap.size W w') := fun W xv h1 h2 => HAm hm W xv h1 h2
          clear hm HhT hU
          have H0 : Hid (Below w.heap.size w w) := Below.refl _ _
          go_enter Tryd.func6, Tryd.ntmps6
          go_upto_region 4 with (first
            | (go_at_call 11; refine HG.out.mono ?_; rintro e w0 ⟨rfl, hb0⟩)
            | (go_at_call 18; refine (HCh.out _ hb0).mono ?_; rintro e wc ⟨rc, rfl, hcc, hbc⟩; have HcB : Hid (Below w.heap.size w wc) := below_via hb0 hbc (Nat.le_refl _))
            | (go_at_call 17; refine (HR1.out wc rc HcB.out hcc).mono ?_; rintro e wr ⟨⟨r1, rfl, hrr⟩, hbr⟩)
            | go_in)
          obtain ⟨xa, xc, rfl⟩ := HXL.out wr r1 hrr
          have H1 : Hid (Below w.heap.size w wr ∧ TxS wr (.slice xa 0 xc) []) := ⟨below_via HcB.out hbr (Nat.le_refl _), hrr⟩
          clear hrr hbr hcc hbc HcB hb0
          go_upto_region 5 with (first
            | (go_at_call 18; refine (HCh.out _ H1.out.1).mono ?_; rintro e wc ⟨rc, rfl, hcc, hbc⟩; have HcB : Hid (Below w.heap.size w wc) := below_via H1.out.1 hbc (Nat.le_refl _))
            | (go_at_call 17; refine (HR2.out wc rc HcB.out hcc).mono ?_; rintro e wr ⟨⟨qH2, rfl, hrr⟩, hbr⟩)
            | go_in)
          have H2 : Hid (Below w.heap.size w wr ∧ TxS wr (.slice xa 0 xc) []) := ⟨below_via HcB.out hbr (Nat.le_refl _), (H1.out.2.below hbc).below hbr⟩
          clear hrr hbr hcc hbc HcB H1
          go_upto_region 6 with (first
            | (go_at_call 18; refine (HCh.out _ H2.out.1).mono ?_; rintro e wc ⟨rc, rfl, hcc, hbc⟩; have HcB : Hid (Below w.heap.size w wc) := below_via H2.out.1 hbc (Nat.le_refl _))
            | (go_at_call 17; refine (HR3.out wc rc HcB.out hcc).mono ?_; rintro e wr ⟨⟨qH3, rfl, hrr⟩, hbr⟩)
            | go_in)
          have H3 : Hid (Below w.heap.size w wr ∧ TxS wr (.slice xa 0 xc) []) := ⟨below_via HcB.out hbr (Nat.le_refl _), (H2.out.2.below hbc).below hbr⟩
          clear hrr hbr hcc hbc HcB H2
          go_upto_region 9 with (fail)
          go_upto_region 10 with (first
            | (go_at_call 18; refine (HCh.out _ H3.out.1).mono ?_; rintro e wc ⟨rc, rfl, hcc, hbc⟩; have HcB : Hid (Below w.heap.size w wc ∧ TxS wc (.slice xa 0 xc) [] ∧ CAs wc rc Z) := ⟨below_via H3.out.1 hbc (Nat.le_refl _), H3.out.2.below hbc, hcc⟩; have HV0 : Hid (VRow 9 wc.heap.size (wc.alloc (.cells #[] 9)) (.slice (some ⟨wc.heap.size, 0, none⟩) 0 0) []) := .inr ⟨wc.heap.size, [], rfl, Nat.le_refl _, Blk.new 9 wc [], Nat.le_refl _, rfl, by simp⟩)
            | (at_builtin; refine wpList_apv rfl (.tmp 65) (.tmp 66) 23 23 rfl (.string ⟨#[]⟩) rfl 9 16 Tryd.undX Tryd.infoX (by decide) wc.heap.size (.slice (some ⟨wc.heap.size, 0, none⟩) 0 0) [] rfl HV0.out (.slice ua un uc) (U.map encStr) rfl (by have h9 := ((HU.out.below HcB.out.1).below ((Below.refl _ _).alloc (Nat.le_refl _) (.cells #[] 9))).src (t := 23) Tryd.undX; rw [List.length_map]; exact h9) (by have := HUl.out; simp; omega) (by simp) ?_; intro v2 w2 hV2 hG2; have HB2 : Hid (Below wc.heap.size wc w2) := ((Below.refl wc.heap.size wc).alloc (Nat.le_refl _) _).trans (hG2.below HV0.out (by simp)))
            | (at_builtin; refine wpList_apv rfl (.tmp 67) (.tmp 69) 23 23 rfl (.string ⟨#[]⟩) rfl 9 16 Tryd.undX Tryd.infoX (by decide) wc.heap.size v2 ([] ++ U.map encStr) rfl (hV2.alloc _) _ [encStr s] rfl (src_oneP (T := 9) (blk_nwP rfl rfl) rfl) (by have := HUl.out; simp; omega) (HB2.out.alloc HB2.out.size (.cells #[encStr s] 9)).size ?_; intro v3 w3 hV3 hG3; have HB3 : Hid (Below wc.heap.size wc w3 ∧ TxS w3 v3 (U ++ [s])) := ⟨(HB2.out.alloc HB2.out.size _).trans (hG3.below (hV2.alloc _) (HB2.out.alloc HB2.out.size _).size), VRow.tx (L := U ++ [s]) (B := wc.heap.size) (by rw [List.map_append]; exact hV3) HUs.out⟩)
            | (go_at_call 17; refine (HR4.out w3 rc v3 (below_via HcB.out.1 HB3.out.1 (Nat.le_refl _)) (HcB.out.2.2.below HB3.out.1) HB3.out.2).mono ?_; rintro e wr ⟨⟨q4, rfl, hrr⟩, hbr⟩)
            | go_in)
          have H4 : Hid (Below w.heap.size w wr ∧ TxS wr (.slice xa 0 xc) []) := ⟨below_via (below_via HcB.out.1 HB3.out.1 (Nat.le_refl _)) hbr (Nat.le_refl _), (HcB.out.2.1.below HB3.out.1).below hbr⟩
          clear hrr hbr hcc hbc HcB H3 hV2 hG2 hV3 hG3 HB2 HB3 HV0
          go_upto_region 11 with (first
            | (go_at_call 18; refine (HCh.out _ H4.out.1).mono ?_; rintro e wc ⟨rc, rfl, hcc, hbc⟩; have HcB : Hid (Below w.heap.size w wc) := below_via H4.out.1 hbc (Nat.le_refl _))
            | (go_at_call 17; refine (HR5.out wc rc HcB.out hcc).mono ?_; rintro e wr ⟨⟨q5, rfl, hrr⟩, hbr⟩)
            | go_in)
          have H5 : Hid (Below w.heap.size w wr ∧ TxS wr (.slice xa 0 xc) []) := ⟨below_via HcB.out hbr (Nat.le_refl _), (H4.out.2.below hbc).below hbr⟩
          clear hrr hbr hcc hbc HcB H4
          go_wp2_with (first
            | (go_at_call 19; refine (HhF.out _ H5.out.1).mono ?_; rintro e wh ⟨rfl, hbh⟩; have H6 : Hid (Below w.heap.size w wh ∧ TxS wh (.slice xa 0 xc) []) := ⟨below_via H5.out.1 hbh (Nat.le_refl _), H5.out.2.below hbh⟩)
            | (go_at_call 20; refine (HAm.out _ H6.out.1 H6.out.2).mono ?_; rintro e wa ⟨rfl, hba⟩; have H7 : Hid (Below w.heap.size w wa) := below_via H6.out.1 hba (Nat.le_refl _))
            | (go_at_call 10; refine (HL.out _).mono ?_; rintro e wl ⟨rfl, hbl⟩)
            | go_in)
          go_ret
          exact ⟨rfl, below_via H7.out hbl (Nat.le_refl _)⟩
end Go.Proofs.YtkjdihikcgpabaaDoor
