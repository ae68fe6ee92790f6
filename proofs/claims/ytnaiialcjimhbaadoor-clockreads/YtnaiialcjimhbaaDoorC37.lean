/-
  Clock: an element's moment, in both.
-/
import Derived.Test.YtnaiialcjimhbaaDoorC36
import Derived.Test.YtnaiialcjimhbaaDoorC35
namespace Go.Proofs.YtnaiialcjimhbaaDoor
open Go.RowKit
set_option maxRecDepth 100000 in
set_option maxHeartbeats 4000000 in
theorem Time_any {w : World} (b off n c : Nat) (X : List Int) (hx : X.length = n) (hU : U8s X) (hb : b < w.heap.size) (hn : n ≤ c) (hc : Rd .u8 w b off X) (hl : n ≤ 1000000) (cl tag : Int) (cons : Bool) (uv uk gv gm gk : Int)
    (hUt : ∀ e, UtcIs X e → e = .returned (.tuple #[.int .i64 uv, .int .i64 uk])) (hG : ∀ e, GeneralIs X e → e = .returned (.tuple #[.int .i64 gv, .int .i64 gm, .int .i64 gk])) :
    Calls Tryd.prog 20 #[.agg #[.int .i64 cl, .int .i64 tag, .bool cons, .slice (some ⟨b, off, none⟩) n c, .slice none 0 0]] w fun e w' => e = .returned (.tuple #[.int .i64 (timeV cl tag cons X uv uk gv gk).1, .int .i64 (timeV cl tag cons X uv uk gv gk).2]) ∧ Below w.heap.size w w' := by
  have HS : Hid (∀ o, Sl .u8 (w.alloc o) (.slice (some ⟨b, off, none⟩) n c) X) := fun o => sl_alloc (by subst hx; exact ⟨_, _, rfl, hn, .inr ⟨b, off, rfl, hb, hc⟩⟩) o
  have HU : Hid (∀ (o : Obj), Calls Tryd.prog 16 #[.slice (some ⟨b, off, none⟩) n c] (w.alloc o) fun e w' => e = .returned (.tuple #[.int .i64 uv, .int .i64 uk]) ∧ Below (w.alloc o).heap.size (w.alloc o) w') := fun o =>
    (Utc_any _ X (HS.out o) hU (by omega)).mono fun e w' ⟨h, k⟩ => ⟨hUt e h, k⟩
  obtain ⟨xv, hxv⟩ : ∃ v : Int, (if (46 : Int) ∈ X then 0 else gv) = v := ⟨_, rfl⟩
  obtain ⟨xk, hxk⟩ : ∃ v : Int, (if (46 : Int) ∈ X then 6 else gk) = v := ⟨_, rfl⟩
  have HW : Hid (∀ (o : Obj), Calls Tryd.prog 38 #[.slice (some ⟨b, off, none⟩) n c] (w.alloc o) fun e w' => e = .returned (.tuple #[.int .i64 xv, .int .i64 xk]) ∧ Below (w.alloc o).heap.size (w.alloc o) w') := fun o => by
    have := whole_any (w := w.alloc o) b off n c X hx hU (by simp; omega) hn (below_rd (al1 o) hb hc) hl gv gm gk hG
    rw [hxv, hxk] at this; exact this
  have HV : Hid (timeV cl tag cons X uv uk gv gk = if cl ≠ 0 ∨ cons = true then (0, 30) else if tag = 23 then (uv, uk) else if tag = 24 then (xv, xk) else (0, 30)) := by
    show _ = _
    unfold timeV
    rw [← hxv, ← hxk]
    by_cases h : (46 : Int) ∈ X <;> simp [h]
  clear hc hUt hG hxv hxk hU
  rw [HV.out]
  by_cases h0 : cl = 0
  · by_cases hcn : cons = true
    · rw [if_pos (Or.inr hcn)]
      subst h0; subst hcn
      go_enter Tryd.func20, Tryd.ntmps20
      go_wp2
      go_ret2
      exact ⟨rfl, al1 _⟩
    · have hcf : cons = false := by simpa using hcn
      rw [if_neg (by simp [h0, hcf])]
      subst h0; subst hcf
      by_cases h23 : tag = 23
      · rw [if_pos h23]
        subst h23
        go_enter Tryd.func20, Tryd.ntmps20
        go_wp2_with fail
        refine (HU.out _).mono ?_
        rintro e w1 ⟨rfl, hb1⟩
        go_wp2
        go_ret2
        exact ⟨rfl, (al1 _).trans (hb1.mono (by simp))⟩
      · rw [if_neg h23]
        by_cases h24 : tag = 24
        · rw [if_pos h24]
          subst h24
          go_enter Tryd.func20, Tryd.ntmps20
          go_wp2_with fail
          refine (HW.out _).mono ?_
          rintro e w1 ⟨rfl, hb1⟩
          go_wp2
          go_ret2
          exact ⟨rfl, (al1 _).trans (hb1.mono (by simp))⟩
        · rw [if_neg h24]
          go_enter Tryd.func20, Tryd.ntmps20
          go_wp2
          go_ret2
          exact ⟨rfl, al1 _⟩
  · rw [if_pos (Or.inl h0)]
    go_enter Tryd.func20, Tryd.ntmps20
    go_wp2
    go_ret2
    exact ⟨rfl, al1 _⟩
set_option maxRecDepth 100000 in
set_option maxHeartbeats 4000000 in
theorem RTime_any {w : World} (hRC : RestC) (a : Option Addr) (L c : Nat) (X : List Int) (hX : Sl .u8 w (.slice a L c) X) (hL : X.length = L) (hU : U8s X) (hl : L ≤ 1000000) (cl tag : Int) (cons : Bool) (uv uk gv gm gk : Int)
    (hUt : ∀ e, UtcIs X e → e = .returned (.tuple #[.int .i64 uv, .int .i64 uk])) (hG : ∀ e, GeneralIs X e → e = .returned (.tuple #[.int .i64 gv, .int .i64 gm, .int .i64 gk])) :
    Calls Tryd.prog 21 #[.agg #[.int .i64 cl, .int .i64 tag, .bool cons, .slice a L c, .slice none 0 0]] w fun e w' => e = .returned (.tuple #[.int .i64 (timeV cl tag cons X uv uk gv gk).1, .int .i64 (timeV cl tag cons X uv uk gv gk).2]) ∧ Below w.heap.size w w' := by
  have HX : Hid (Sl .u8 w (.slice a L c) X ∧ X.length = L ∧ U8s X) := ⟨hX, hL, hU⟩
  have HU : Hid (∀ (W : World), Sl .u8 W (.slice a L c) X → Calls Tryd.prog 17 #[.slice a L c] W fun e w' => e = .returned (.tuple #[.int .i64 uv, .int .i64 uk]) ∧ Below W.heap.size W w') := fun W h =>
    (RUtc_any hRC a L c X h hL hU hl).mono fun e w' ⟨h, k⟩ => ⟨hUt e h, k⟩
  have HG : Hid (∀ (W : World), Sl .u8 W (.slice a L c) X → Calls Tryd.prog 19 #[.slice a L c] W fun e w' => e = .returned (.tuple #[.int .i64 gv, .int .i64 gm, .int .i64 gk]) ∧ Below W.heap.size W w') := fun W h =>
    (RGeneral_any hRC a L c X h hL hU hl).mono fun e w' ⟨h, k⟩ => ⟨hG e h, k⟩
  clear hX hUt hG hU hRC
  have HV : Hid (timeV cl tag cons X uv uk gv gk = if cl ≠ 0 ∨ cons = true then (0, 30) else if tag = 23 then (uv, uk) else if tag = 24 then (if (46 : Int) ∈ X then (0, 6) else (gv, gk)) else (0, 30)) := rfl
  rw [HV.out]
  by_cases h0 : cl = 0
  · by_cases hcn : cons = true
    · rw [if_pos (Or.inr hcn)]
      subst h0; subst hcn
      go_enter Tryd.func21, Tryd.ntmps21
      go_wp2
      go_ret2
      exact ⟨rfl, al1 _⟩
    · have hcf : cons = false := by simpa using hcn
      rw [if_neg (by simp [h0, hcf])]
      subst h0; subst hcf
      by_cases h23 : tag = 23
      · rw [if_pos h23]
        subst h23
        go_enter Tryd.func21, Tryd.ntmps21
        go_wp2_with fail
        refine (HU.out _ (sl_alloc HX.out.1 _)).mono ?_
        rintro e w1 ⟨rfl, hb1⟩
        go_wp2
        go_ret2
        exact ⟨rfl, (al1 _).trans (hb1.mono (by simp))⟩
      · rw [if_neg h23]
        by_cases h24 : tag = 24
        · rw [if_pos h24]
          subst h24
          obtain ⟨pv, hpv⟩ : ∃ pv : Int × Int, (if (46 : Int) ∈ X then ((0 : Int), (6 : Int)) else (gv, gk)) = pv := ⟨_, rfl⟩
          have HP : Hid (((46 : Int) ∈ X → pv = (0, 6)) ∧ ((46 : Int) ∉ X → pv = (gv, gk))) := ⟨fun h => by rw [← hpv, if_pos h], fun h => by rw [← hpv, if_neg h]⟩
          rw [hpv]
          clear hpv
          go_enter Tryd.func21, Tryd.ntmps21
          go_wp2_with fail
          refine wp_gen (fun W => Below w.heap.size w W ∧ W.cell? ⟨w.heap.size, 3, none⟩ = some (.slice a L c) ∧ Sl .u8 W (.slice a L c) X) ⟨al1 _, (Blk.new _ w [.int .i64 0, .int .i64 24, .bool false, .slice a L c, .slice none 0 0]).cell 3, sl_alloc HX.out.1 _⟩ ?_
          rintro w1 ⟨hb1, c3, hS1⟩
          have H1 : Hid (Below w.heap.size w w1 ∧ Sl .u8 w1 (.slice a L c) X) := ⟨hb1, hS1⟩
          clear hb1 hS1
          go_loopw [4] (fun iv wr => ∃ i : Nat, i ≤ L ∧ iv = .int .i64 i ∧ (46 : Int) ∉ X.take i ∧ w1 = wr) (fun iv _ => L - (intOf iv).toNat)
          case atStart => exact ⟨0, by omega, rfl, by simp, rfl⟩
          case round =>
            obtain ⟨i, hi, rfl, hno, rfl⟩ := hrel
            by_cases hlt : i < L
            · obtain ⟨b, off, rfl, hc⟩ := sl_at H1.out.2 i (by have := HX.out.2.1; omega)
              obtain ⟨x, hx⟩ : ∃ x, X.getD i 0 = x := ⟨_, rfl⟩
              rw [hx] at hc
              have hiI : (i : Int) < (L : Int) := by omega
              by_cases h46 : x = 46
              · have HM : Hid ((46 : Int) ∈ X) := by
                  have : X.getD i 0 = X[i]'(by have := HX.out.2.1; omega) := by simp [show i < X.length by have := HX.out.2.1; omega]
                  show (46 : Int) ∈ X
                  rw [← h46, ← hx, this]; exact List.getElem_mem _
                clear hx hno
                subst h46
                go_wp2
                go_ret2
                exact ⟨by rw [HP.out.1 HM.out]; rfl, H1.out.1⟩
              · have HM : Hid ((46 : Int) ∉ X.take (i + 1)) := by
                  show (46 : Int) ∉ X.take (i + 1)
                  rw [take_snoc X i (by have := HX.out.2.1; omega), hx]
                  intro hm
                  rcases List.mem_append.1 hm with hm | hm
                  · exact hno hm
                  · exact h46 (List.mem_singleton.1 hm).symm
                clear hx hno
                go_wp2
                exact ⟨⟨i + 1, by omega, by go_num, HM.out, trivial⟩, by simp [intOf]; omega⟩
            · obtain rfl : i = L := by omega
              have HM : Hid ((46 : Int) ∉ X) := by
                have := hno
                rwa [List.take_of_length_le (by have := HX.out.2.1; omega)] at this
              clear hno
              go_wp2_with fail
              refine (HG.out _ H1.out.2).mono ?_
              rintro e w2 ⟨rfl, hb2⟩
              have H2 : Hid (Below w.heap.size w w2) := below_via H1.out.1 hb2 (Nat.le_refl _)
              clear hb2
              go_wp2
              go_ret2
              exact ⟨by rw [HP.out.2 HM.out]; rfl, H2.out⟩
        · rw [if_neg h24]
          have h23B : (tag != 23) = true := by simp [h23]
          have h24B : (tag != 24) = true := by simp [h24]
          go_enter Tryd.func21, Tryd.ntmps21
          go_wp2
          go_ret2
          exact ⟨rfl, al1 _⟩
  · rw [if_pos (Or.inl h0)]
    go_enter Tryd.func21, Tryd.ntmps21
    go_wp2
    go_ret2
    exact ⟨rfl, al1 _⟩
end Go.Proofs.YtnaiialcjimhbaaDoor
