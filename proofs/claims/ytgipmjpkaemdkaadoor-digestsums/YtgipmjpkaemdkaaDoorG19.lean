/-
  Digest: Sum of lists.
-/
import Derived.Test.YtgipmjpkaemdkaaDoorG18a
namespace Go.Proofs.YtgipmjpkaemdkaaDoor
open Go.RowKit
/-- The slice v holds the values vs. -/
def SlS (w : World) (v : Value) (vs : List Value) : Prop :=
  ∃ a c, v = .slice a vs.length c ∧ vs.length ≤ c ∧ (vs = [] ∨ ∃ b off, a = some ⟨b, off, none⟩ ∧ b < w.heap.size ∧ ∀ i, i < vs.length → w.cell? ⟨b, off + i, none⟩ = some (vs.getD i undef))
/-- The values are slices that read the lists. -/
def Msgs (w : World) (vs : List Value) (ms : List (List Int)) : Prop := vs.length = ms.length ∧ ∀ i, i < vs.length → Sl .u8 w (vs.getD i undef) (ms.getD i []) ∧ U8s (ms.getD i [])
theorem Msgs.below {w w' : World} {vs : List Value} {ms : List (List Int)} (h : Msgs w vs ms) (hb : Below w.heap.size w w') : Msgs w' vs ms := ⟨h.1, fun i hi => ⟨below_sl hb (h.2 i hi).1, (h.2 i hi).2⟩⟩
theorem SlS.below {w w' : World} {v : Value} {vs : List Value} (h : SlS w v vs) (hb : Below w.heap.size w w') : SlS w' v vs := by
  obtain ⟨a, c, rfl, hc, h⟩ := h
  refine ⟨a, c, rfl, hc, ?_⟩
  rcases h with h | ⟨b, off, rfl, hbl, hr⟩
  · exact .inl h
  · exact .inr ⟨b, off, rfl, Nat.lt_of_lt_of_le hbl hb.size, fun i hi => (hb.cell (p := ⟨b, off + i, none⟩) hbl).trans (hr i hi)⟩
theorem Sl.x {w w' : World} {v : Value} {xs : List Int} (h : Sl .u8 w v xs) (hb : Below w.heap.size w w') : SlX w' w.heap.size v xs := by
  obtain ⟨a, c, rfl, hc, h⟩ := h
  refine ⟨a, c, rfl, hc, ?_⟩
  rcases h with h | ⟨b, off, rfl, hbl, hr⟩
  · exact .inl h
  · exact .inr ⟨b, off, rfl, Nat.lt_of_lt_of_le hbl hb.size, by omega, below_rd hb hbl hr⟩
theorem Sl.xg {w w' : World} {v : Value} {xs : List Int} {g : Nat} (h : Sl .u8 w v xs) (hb : Below w.heap.size w w') (hg : w.heap.size ≤ g) : SlX w' g v xs := by
  obtain ⟨a, c, rfl, hc, h⟩ := h
  refine ⟨a, c, rfl, hc, ?_⟩
  rcases h with h | ⟨b, off, rfl, hbl, hr⟩
  · exact .inl h
  · exact .inr ⟨b, off, rfl, Nat.lt_of_lt_of_le hbl hb.size, by omega, below_rd hb hbl hr⟩
theorem flatten_u8 {ms : List (List Int)} (h : ∀ i, i < ms.length → U8s (ms.getD i [])) : U8s ms.flatten := by
  intro x hx
  obtain ⟨l, hl, hxl⟩ := List.mem_flatten.1 hx
  obtain ⟨i, hi, rfl⟩ := List.mem_iff_getElem.1 hl
  have := h i hi
  simp [hi] at this
  exact this x hxl
theorem flatten_take {ms : List (List Int)} {i : Nat} (hi : i < ms.length) : (ms.take (i + 1)).flatten = (ms.take i).flatten ++ ms.getD i [] := by
  rw [List.take_succ_eq_append_getElem hi, List.flatten_append, List.getD_eq_getElem?_getD, List.getElem?_eq_getElem hi]
  simp only [List.flatten_cons, List.flatten_nil, List.append_nil, Option.getD_some]
theorem flatten_take_le (ms : List (List Int)) (i : Nat) : (ms.take i).flatten.length ≤ ms.flatten.length := by
  have h : ms.flatten = (ms.take i).flatten ++ (ms.drop i).flatten := by rw [← List.flatten_append, List.take_append_drop]
  rw [h, List.length_append]; omega
theorem Sum_no {w : World} (alg : Int) (ha : ¬ Alg alg) (v : Value) : Calls Tryd.prog 12 #[.int .i64 alg, v] w fun e w' => e = .returned (.tuple #[.slice none 0 0, .int .i64 1]) ∧ Below w.heap.size w w' := by
  go_enter Tryd.func12, Tryd.ntmps12
  go_wp2_with (go_at_call 21; refine (New_no alg ha).mono ?_; rintro e w1 ⟨rfl, hb1⟩)
  go_ret2
  exact ⟨rfl, hb1⟩
set_option maxHeartbeats 1000000 in
theorem Sum_any {w : World} (alg : Int) (ha : Alg alg) (hT : Tabs w) (v : Value) (vs : List Value) (ms : List (List Int)) (hv : SlS w v vs) (hm : Msgs w vs ms) (hn : ms.flatten.length ≤ 16777216) (hk : ms.length ≤ 1152921504606846976) :
    Calls Tryd.prog 12 #[.int .i64 alg, v] w fun e w' => ∃ d, e = .returned (.tuple #[.slice (some ⟨d, 0, none⟩) (siz alg) (siz alg), .int .i64 0]) ∧ w.heap.size ≤ d ∧ Arr .u8 5 w' d (dig alg ms.flatten) ∧ Below w.heap.size w w' := by
  obtain ⟨a, c, rfl, hc, hv⟩ := hv
  have HM : Hid (Msgs w vs ms ∧ Tabs w) := ⟨hm, hT⟩
  have hl := hm.1
  have hz7 := hT.size
  have HU : Hid (U8s ms.flatten) := flatten_u8 (fun i hi => (hm.2 i (by omega)).2)
  obtain ⟨k, hke⟩ : ∃ k, vs.length = k := ⟨_, rfl⟩
  rw [hke] at hc hl
  have HV : Hid (vs = [] ∨ ∃ b off, a = some ⟨b, off, none⟩ ∧ b < w.heap.size ∧ ∀ i, i < k → w.cell? ⟨b, off + i, none⟩ = some (vs.getD i undef)) := by rw [← hke]; exact hv
  simp only [hke]
  clear hm hT hv
  go_enter Tryd.func12, Tryd.ntmps12
  go_wp2_with (go_at_call 21; refine (New_any alg ha HM.out.2).mono ?_; rintro e w1 ⟨g1, rfl, hg1, hh1, hb1⟩; have HH1 : Hid (HashIs w1 g1 alg [] ∧ Below w.heap.size w w1) := ⟨hh1, hb1⟩; clear hh1 hb1)
  go_loopw [21] (fun iv wr => ∃ i : Nat, iv = .int .i64 i ∧ i ≤ k ∧ HashIs wr g1 alg (ms.take i).flatten ∧ Below w.heap.size w wr) (fun iv _ => k - (intOf iv).toNat)
  case atStart => exact ⟨0, rfl, by omega, HH1.out⟩
  case round =>
    obtain ⟨i, rfl, hi, hH, hBw⟩ := hrel
    by_cases hlt : i < k
    · rcases HV.out with hnil | ⟨b, off, rfl, hbl, hcell⟩
      · rw [hnil] at hke; simp at hke; omega
      · have hci := hcell i hlt
        obtain ⟨hsl, hu8⟩ := HM.out.1.2 i (by omega)
        have hx := hsl.xg hBw hg1
        have hxl : (ms.getD i []).length ≤ ms.flatten.length ∧ (ms.take i).flatten.length + (ms.getD i []).length ≤ ms.flatten.length := by
          have := flatten_take_le ms (i + 1); rw [flatten_take (by omega), List.length_append] at this; omega
        have HW : Hid (∀ w', w' = wr → Calls Tryd.prog _ _ w' _) := fun w' hw => by
          rw [hw]; exact Write_any (w := wr) g1 alg ha (ms.take i).flatten (ms.getD i []) hH (by omega) (HM.out.2.below hBw) _ hx (fun x hx => by obtain ⟨l, h1, h2⟩ := List.mem_flatten.1 hx; exact HU.out x (List.mem_flatten.2 ⟨l, List.mem_of_mem_take h1, h2⟩)) hu8 (by omega) (by omega) (by omega)
        have hcr : wr.cell? ⟨b, off + i, none⟩ = some (vs.getD i undef) := by rw [hBw.cell (p := ⟨b, off + i, none⟩) hbl]; exact hci
        obtain ⟨ai, ci, hvi, _, _⟩ := hsl
        rw [hvi] at hcr HW
        have hft : (ms.take (i + 1)).flatten = (ms.take i).flatten ++ ms.getD i [] := flatten_take (by omega)
        obtain ⟨m, hme⟩ : ∃ m, ms.getD i [] = m := ⟨_, rfl⟩
        obtain ⟨P0, hP0⟩ : ∃ m, (ms.take i).flatten = m := ⟨_, rfl⟩
        rw [hme] at hcr hft
        rw [hP0] at hft
        simp only [hme, hP0] at HW
        obtain ⟨n, hne⟩ : ∃ n, m.length = n := ⟨_, rfl⟩
        rw [hne] at hcr HW
        have HN : Hid (Below w.heap.size w wr ∧ (ms.take (i + 1)).flatten = P0 ++ m) := ⟨hBw, hft⟩
        clear hft hne hme hP0
        clear hci hx hvi hcell hH hBw hxl
        have hiI : (i : Int) < (k : Int) := by omega
        go_wp2_with (go_at_call 22; refine (HW.out _ rfl).mono ?_; rintro e w2 ⟨rfl, hh2, hu2⟩; have HH2 : Hid (HashIs w2 g1 alg (P0 ++ m) ∧ Upd wr w2 g1) := ⟨hh2, hu2⟩; clear hh2 hu2)
        go_roundw
        case rel =>
          exact ⟨i + 1, by go_num, by omega, by rw [HN.out.2]; exact HH2.out.1, HH2.out.2.below HN.out.1 HN.out.1.size hg1⟩
        case measure => simp [intOf]; omega
    · obtain rfl : i = k := by omega
      have e : ms.take i = ms := List.take_of_length_le (by omega)
      rw [e] at hH
      have HN : Hid (HashIs wr g1 alg ms.flatten ∧ Below w.heap.size w wr) := ⟨hH, hBw⟩
      clear e hH hBw
      go_wp2_with (go_at_call 24; refine (SumM_any g1 alg ha ms.flatten HN.out.1 (HM.out.2.below HN.out.2) HU.out hn).mono ?_; rintro e w2 ⟨d, rfl, hd, hA, hb2⟩; have HF : Hid (w.heap.size ≤ d ∧ Arr .u8 5 w2 d (dig alg ms.flatten) ∧ Below w.heap.size w w2) := ⟨Nat.le_trans HN.out.2.size hd, hA, HN.out.2.trans (hb2.mono HN.out.2.size)⟩; clear hA hb2)
      go_ret2
      exact ⟨d, rfl, HF.out⟩
end Go.Proofs.YtgipmjpkaemdkaaDoor
