/-
  Digest: the law DigestSums.
-/
import Derived.Test.YtgipmjpkaemdkaaDoorG43
import Derived.Test.YtgipmjpkaemdkaaDoorApV
namespace Go.Proofs.YtgipmjpkaemdkaaDoor
open Go.RowKit
theorem Tryd.undS : Tryd.prog.underlying 22 = some (.slice 25) := by kernel_rfl
theorem Tryd.infoS : (Tryd.prog.info? 25).map (fun i => (i.zero, i.size, i.bytes)) = some (some (.slice none 0 0), 1, 24) := by kernel_rfl
theorem src_v {P : Program} {tx e' T : TypeId} (hk : P.underlying tx = some (.slice e')) {w : World} {b : Nat} {vs : List Value} (h : Blk T w b vs) (ho : ∀ u ∈ vs, u.oneCell' = true) : Src P 1 tx (.slice (some ⟨b, 0, none⟩) vs.length vs.length) vs.length vs w := by
  refine Src.ofSlice w hk _ _ _ _ (by simp) (fun j u hj => ?_) ho
  have hadd : (⟨b, 0, none⟩ : Addr).add j = ⟨b, j, none⟩ := by simp [Addr.add] <;> omega
  rw [hadd, h.cell j, hj]
theorem blk_nw {e : TypeId} {w : World} {b : Nat} {cs : Array Value} {xs : List Value} (hb : b = w.heap.size) (h : cs = xs.toArray) : Blk e (w.alloc (.cells cs e)) b xs := by subst hb; subst h; exact Blk.new e w _
theorem VRow.sls {e : TypeId} {B : Nat} {w : World} {v : Value} {xs : List Value} (h : VRow e B w v xs) : SlS w v xs := by
  rcases h with ⟨rfl, rfl⟩ | ⟨b, S, rfl, _, hA, hl, ht, _⟩
  · exact ⟨none, 0, rfl, Nat.le_refl _, .inl rfl⟩
  · refine ⟨_, _, rfl, hl, .inr ⟨b, 0, rfl, hA.lt, fun i hi => ?_⟩⟩
    rw [Nat.zero_add, hA.cell i, List.getD_eq_getElem?_getD]
    have : xs[i]? = S[i]? := by rw [← ht, List.getElem?_take, if_pos hi]
    rw [this, List.getElem?_eq_getElem (by omega)]; rfl
theorem LentR8.grew {B : Nat} {w w' : World} {v u : Value} {X : List Int} {ys : List Value} (h : LentR8 B w v X) (hg : VGrew 25 w w' u ys) : LentR8 B w' v X := by
  rcases hg with hg | ⟨b', n, S', _, hB, hU, _, _⟩
  · exact h.below hg
  · obtain ⟨b, S, rfl, h1, hA, h2⟩ := h
    refine ⟨b, S, rfl, h1, hU.arr hA (fun e => ?_), h2⟩
    subst e
    unfold Arr at hA
    unfold Blk at hB
    rw [hA] at hB
    simp at hB
theorem getD_snoc_lt {us : List Value} {x : Value} {j : Nat} (h : j < us.length) : (us ++ [x]).getD j undef = us.getD j undef := by
  rw [List.getD_eq_getElem?_getD, List.getElem?_append_left h, ← List.getD_eq_getElem?_getD]
theorem getD_snoc_eq {us : List Value} {x : Value} {j : Nat} (h : us.length = j) : (us ++ [x]).getD j undef = x := by
  subst h; simp

theorem RSum_no {w : World} (alg : Int) (ha : ¬ Alg alg) (v : Value) : Calls Tryd.prog 13 #[.int .i64 alg, v] w fun e w' => e = .returned (.tuple #[.slice none 0 0, .int .i64 1]) ∧ w = w' := by
  have HSz : Hid (∀ w' : World, Calls Tryd.prog 18 #[.int .i64 alg] w' fun e w'' => e = .returned (.int .i64 0) ∧ w' = w'') := fun w' => by have := RSize_any (w := w') alg; rw [siz_no ha] at this; exact this
  go_enter Tryd.func13, Tryd.ntmps13
  go_wp2_with (go_at_call 18; refine (HSz.out _).mono ?_; rintro e w' ⟨rfl, rfl⟩)
  go_ret2
  exact ⟨rfl, rfl⟩

set_option maxRecDepth 20000 in
set_option maxHeartbeats 2000000 in
theorem RSum_any {w : World} (alg : Int) (ha : Alg alg) (a : Option Addr) (n c : Nat) (vs : List Value) (ms : List (List Int)) (hL : Lists w a n c vs ms) (hms : ms.flatten.length ≤ 65536) (hn : n ≤ 1000) :
    Calls Tryd.prog 13 #[.int .i64 alg, .slice a n c] w fun e w' => ∃ r, e = .returned (.tuple #[r, .int .i64 0]) ∧ Sl .u8 w' r (dig alg ms.flatten) ∧ Below w.heap.size w w' := by
  have HX : Hid (Lists w a n c vs ms ∧ ms.flatten.length ≤ 65536 ∧ ms.length = n) := ⟨hL, hms, hL.len⟩
  have HSz : Hid (∀ w' : World, Calls Tryd.prog 18 #[.int .i64 alg] w' fun e w'' => e = .returned (.int .i64 (siz alg)) ∧ w' = w'') := fun w' => RSize_any alg
  have hs1 : ((siz alg : Int) == 0) = false := by simpa using siz_alg ha
  clear hL hms
  go_enter Tryd.func13, Tryd.ntmps13
  go_wp2_with (go_at_call 18; refine (HSz.out _).mono ?_; rintro e w' ⟨rfl, rfl⟩)
  go_loopw [6, 7] (fun av iv wr => ∃ i : Nat, iv = .int .i64 i ∧ i ≤ n ∧ Row .u8 5 w.heap.size wr av (ms.take i).flatten ∧ Below w.heap.size w wr) (fun _ iv _ => n - (intOf iv).toNat)
  case atStart => exact ⟨0, rfl, by omega, Row.nil _ _ _ _, Below.refl _ _⟩
  case round =>
    obtain ⟨i, rfl, hi, hR, hB⟩ := hrel
    by_cases hlt : i < n
    · obtain ⟨b, off, ai, ni, ci, rfl, hbl, _, hcell, hX, uX, lX⟩ := HX.out.1.at i hlt
      obtain ⟨X, hXe⟩ : ∃ X, ms.getD i [] = X := ⟨_, rfl⟩
      obtain ⟨M, hMe⟩ : ∃ M, (ms.take i).flatten = M := ⟨_, rfl⟩
      obtain ⟨N, hNe⟩ : ∃ N, M.length = N := ⟨_, rfl⟩
      have hM' : (ms.take (i + 1)).flatten = M ++ X := by rw [flatten_take (by rw [HX.out.2.2]; exact hlt), hMe, hXe]
      have hle := flatten_take_le ms (i + 1)
      rw [hXe] at hX uX lX
      rw [hMe] at hR
      rw [hM', List.length_append] at hle
      have hlen : N + ni ≤ 65536 := by have := HX.out.2.1; omega
      obtain ⟨au, cu, hu⟩ := hR.ne
      rw [hNe] at hu
      subst hu
      have HM : Hid ((ms.take (i + 1)).flatten = M ++ X ∧ X.length = ni ∧ M.length = N ∧ Sl .u8 w (.slice ai ni ci) X) := ⟨hM', lX, hNe, hX⟩
      have HR : Hid (Row .u8 5 w.heap.size wr (.slice au N cu) M ∧ Below w.heap.size w wr) := ⟨hR, hB⟩
      have hc0 : wr.cell? ⟨b, off + i, none⟩ = some (.slice ai ni ci) := by rw [hB.cell (p := ⟨b, off + i, none⟩) hbl, hcell]
      have hgt : (ni : Int) ≤ 16777216 - (N : Int) := by omega
      clear hX uX lX hXe hMe hM' hle hcell hR hB hNe
      have hiI : (i : Int) < (n : Int) := by omega
      go_wp2_with (at_builtin; refine wpList_ap rfl (.tmp 26) (.tmp 30) 25 25 rfl .u8 5 1 Tryd.und8 Tryd.info8 (by decide) w.heap.size _ M rfl HR.out.1 _ X rfl (by have := src_sl Tryd.und8 (below_sl HR.out.2 HM.out.2.2.2); exact this) (by have := HM.out; omega) (by have := HR.out.2.size; omega) ?_; intro v6 w6 hr6 hg6; have H6 : Hid (Row .u8 5 w.heap.size w6 v6 (M ++ X) ∧ Below w.heap.size w w6) := ⟨hr6, HR.out.2.trans (hg6.below HR.out.1 HR.out.2.size)⟩; clear hr6 hg6)
      go_roundw
      case rel =>
        refine ⟨i + 1, by go_num, by omega, ?_⟩
        rw [HM.out.1]
        exact H6.out
      case measure => simp [intOf]; omega
    · obtain rfl : i = n := by omega
      have hM : (ms.take i).flatten = ms.flatten := by rw [List.take_of_length_le (by have := HX.out.2.2; omega)]
      rw [hM] at hR
      obtain ⟨M, hMe⟩ : ∃ M, ms.flatten = M := ⟨_, rfl⟩
      have uM : U8s M := by rw [← hMe]; exact flatten_u8 fun j hj => (HX.out.1.msgs.2 j (by rw [HX.out.1.msgs.1]; exact hj)).2
      rw [hMe] at hR
      have HR : Hid (Row .u8 5 w.heap.size wr u6 M ∧ Below w.heap.size w wr ∧ U8s M ∧ M.length ≤ 65536 ∧ ms.flatten = M) := ⟨hR, hB, uM, by rw [← hMe]; exact HX.out.2.1, hMe⟩
      clear hM hR hMe uM hB
      go_wp2_with fail
      refine (Digest_all alg ha wr _ M HR.out.1.sl HR.out.2.2.1 HR.out.2.2.2.1).mono ?_
      rintro e w8 ⟨v8, rfl, hs8, hb8⟩
      have H8 : Hid (Sl .u8 w8 v8 (dig alg M) ∧ Below w.heap.size w w8) := ⟨hs8, below_via HR.out.2.1 hb8 (Nat.le_refl _)⟩
      clear hs8 hb8
      go_wp2
      go_ret2
      exact ⟨_, rfl, by rw [HR.out.2.2.2.2]; exact H8.out.1, H8.out.2⟩
end Go.Proofs.YtgipmjpkaemdkaaDoor
