/-
  Digest: the reference's Size, Block; LentBytes, KeptBytes; much.
-/
import Derived.Test.YtgipmjpkaemdkaaDoorG30
namespace Go.Proofs.YtgipmjpkaemdkaaDoor
open Go.RowKit
theorem al2' {a w : World} {o : Obj} (h : Below a.heap.size a w) : Below a.heap.size a (w.alloc o) := h.alloc h.size o
theorem arr_nw {k : IntKind} {e : TypeId} {w : World} {b : Nat} {cs : Array Value} {xs : List Int} (hb : b = w.heap.size) (h : cs = (xs.map (Value.int k)).toArray) : Arr k e (w.alloc (.cells cs e)) b xs := by subst hb; subst h; exact Blk.new e w _
/-- A lent list: a block from B on that holds X, the two marks, and whatever else. -/
def LentR8 (B : Nat) (w : World) (v : Value) (X : List Int) : Prop :=
  ∃ b S, v = .slice (some ⟨b, 0, none⟩) X.length S.length ∧ B ≤ b ∧ Arr .u8 5 w b S ∧ S.take (X.length + 2) = X ++ [90, 165] ∧ X.length + 2 ≤ S.length ∧ S.length ≤ maxLen
theorem LentR8.sl {B : Nat} {w : World} {v : Value} {X : List Int} (h : LentR8 B w v X) : Sl .u8 w v X := by
  obtain ⟨b, S, rfl, _, hA, ht, hl, _⟩ := h
  refine ⟨_, _, rfl, by omega, .inr ⟨b, 0, rfl, hA.lt, ?_⟩⟩
  have h1 := hA.rd 0 X.length (by omega)
  have e : S.take X.length = X := by
    have : (S.take (X.length + 2)).take X.length = S.take X.length := by rw [List.take_take]; congr 1; omega
    rw [← this, ht, List.take_left]
  rw [List.drop_zero, e] at h1; exact h1
theorem LentR8.below {B : Nat} {w w' : World} {v : Value} {X : List Int} (h : LentR8 B w v X) (hb : Below w.heap.size w w') : LentR8 B w' v X := by
  obtain ⟨b, S, rfl, h1, hA, h2⟩ := h
  exact ⟨b, S, rfl, h1, below_arr hb hA.lt hA, h2⟩
theorem LentR8.mono {B B' : Nat} {w : World} {v : Value} {X : List Int} (h : LentR8 B w v X) (hb : B' ≤ B) : LentR8 B' w v X := by
  obtain ⟨b, S, rfl, h1, h2⟩ := h
  exact ⟨b, S, rfl, by omega, h2⟩

set_option maxHeartbeats 1000000 in
theorem Lent8_any (X : List Int) (v : Value) (w : World) (hX : Sl .u8 w v X) (hl : X.length * 1 ≤ 140737488351232) :
    Calls Tryd.prog 11 #[v] w fun e w' => ∃ r, e = .returned r ∧ LentR8 w.heap.size w' r X ∧ Below w.heap.size w w' := by
  obtain ⟨a, c, hv, hc⟩ : ∃ a c, v = .slice a X.length c ∧ X.length ≤ c := by obtain ⟨a, c, h, h', _⟩ := hX; exact ⟨a, c, h, h'⟩
  subst hv
  go_enter Tryd.func11, Tryd.ntmps11
  go_wp2_with (first
    | (at_builtin; replace hr1 := hr1; refine wpList_ap rfl (.tmp 6) (.tmp 7) 25 25 rfl .u8 5 1 Tryd.und8 Tryd.info8 (by decide) w.heap.size _ X rfl (hr1.alloc _) _ [90, 165] rfl (src_sl Tryd.und8 (Arr.sl (S := [90, 165]) (arr_nw rfl rfl))) (by simp; omega) (by have := hB1.size; simp at this ⊢; omega) ?_; intro v2 w2 hr2 hg2; have hB2 := hg2.below (hr1.alloc _) (by have := hB1.size; simp at this ⊢; omega); obtain ⟨b2, S2, hv2, hb2, hA2, hl2, ht2, hm2⟩ := hr2.open (X.length + 2) (by simp) (by omega); subst hv2; clear hr2 hg2)
    | (at_builtin; refine wpList_ap rfl (.tmp 4) (.tmp 5) 25 25 rfl .u8 5 1 Tryd.und8 Tryd.info8 (by decide) w.heap.size _ [] rfl (Row.arr (S := []) (arr_nw rfl rfl) (Nat.le_refl _) (by decide)) _ X rfl (src_sl Tryd.und8 (below_sl (al1 _) hX)) (by simp; omega) (by simp) ?_; intro v1 w1 hr1 hg1; have hB1 := hg1.below (Row.arr (B := w.heap.size) (S := []) (arr_nw rfl rfl) (Nat.le_refl _) (by decide)) (by simp)))
  go_ret
  have hb1 : Below w.heap.size w w1 := (al2' (Below.refl _ _)).trans hB1
  have hb' : Below w.heap.size w w2 := (al2' hb1).trans hB2
  exact ⟨_, rfl, ⟨b2, S2, rfl, hb2, hA2, by simpa using ht2, hl2, hm2⟩, hb'⟩

set_option maxHeartbeats 1000000 in
theorem Kept8_any {B : Nat} {w : World} (v u : Value) (X : List Int) (hv : LentR8 B w v X) (hu : Sl .u8 w u X) (hl : X.length ≤ 140737488351232) :
    Calls Tryd.prog 14 #[v, u] w fun e w' => e = .returned (.bool true) ∧ Below w.heap.size w w' := by
  have hs := hv.sl
  obtain ⟨b, S, rfl, hb, hA, ht, hle, hm⟩ := hv
  obtain ⟨a', c', hu', _⟩ : ∃ a c, u = .slice a X.length c ∧ X.length ≤ c := by obtain ⟨a, c, h, h', _⟩ := hu; exact ⟨a, c, h, h'⟩
  subst hu'
  have e1 : S.getD X.length 0 = 90 := by
    have : (S.take (X.length + 2)).getD X.length 0 = S.getD X.length 0 := by simp [List.getD]
    rw [← this, ht]; simp [List.getD]
  have e2 : S.getD (X.length + 1) 0 = 165 := by
    have : (S.take (X.length + 2)).getD (X.length + 1) 0 = S.getD (X.length + 1) 0 := by simp [List.getD]
    rw [← this, ht]; simp [List.getD]
  have hc1 := hA.cell X.length (by omega)
  have hc2 := hA.cell (X.length + 1) (by omega)
  rw [e1] at hc1; rw [e2] at hc2
  clear e1 e2 ht
  have hmm : (S.length : Int) ≤ 9223372036854775807 := by unfold maxLen at hm; omega
  have hlt := hA.lt
  go_enter Tryd.func14, Tryd.ntmps14
  go_wp2_with (first
    | (go_at_call 15; refine (SameBytes_any _ _ X hs hu (by omega)).mono ?_; rintro e w' ⟨rfl, hB⟩; rw [← hB.cell (p := ⟨b, X.length, none⟩) hlt] at hc1; rw [← hB.cell (p := ⟨b, X.length + 1, none⟩) hlt] at hc2))
  go_ret
  exact ⟨rfl, hB⟩

theorem Tryd.one_int : (Tryd.prog.info? 3).map (·.size) = some 1 := by kernel_rfl
theorem RSize_any {w : World} (alg : Int) : Calls Tryd.prog 18 #[.int .i64 alg] w fun e w' => e = .returned (.int .i64 (siz alg)) ∧ w = w' := by
  unfold siz
  by_cases h1 : alg = 1
  · subst h1
    have hx : ∀ w' : World, Sem.run Tryd.prog (Instr.index 47 (.agg #[.int .i64 20, .int .i64 32, .int .i64 48, .int .i64 64]) (.int .i64 0)) w' = .ok (.int .i64 20) w' := fun w' => run_index_row w' _ _ 4 .i64 [20, 32, 48, 64] 0 Tryd.underlying47 Tryd.underlying3 Tryd.one_int rfl (by decide)
    go_enter Tryd.func18, Tryd.ntmps18; go_wp2; go_ret; exact ⟨rfl, rfl⟩
  by_cases h2 : alg = 2
  · subst h2
    have hx : ∀ w' : World, Sem.run Tryd.prog (Instr.index 47 (.agg #[.int .i64 20, .int .i64 32, .int .i64 48, .int .i64 64]) (.int .i64 1)) w' = .ok (.int .i64 32) w' := fun w' => run_index_row w' _ _ 4 .i64 [20, 32, 48, 64] 1 Tryd.underlying47 Tryd.underlying3 Tryd.one_int rfl (by decide)
    go_enter Tryd.func18, Tryd.ntmps18; go_wp2; go_ret; exact ⟨rfl, rfl⟩
  by_cases h3 : alg = 3
  · subst h3
    have hx : ∀ w' : World, Sem.run Tryd.prog (Instr.index 47 (.agg #[.int .i64 20, .int .i64 32, .int .i64 48, .int .i64 64]) (.int .i64 2)) w' = .ok (.int .i64 48) w' := fun w' => run_index_row w' _ _ 4 .i64 [20, 32, 48, 64] 2 Tryd.underlying47 Tryd.underlying3 Tryd.one_int rfl (by decide)
    go_enter Tryd.func18, Tryd.ntmps18; go_wp2; go_ret; exact ⟨rfl, rfl⟩
  by_cases h4 : alg = 4
  · subst h4
    have hx : ∀ w' : World, Sem.run Tryd.prog (Instr.index 47 (.agg #[.int .i64 20, .int .i64 32, .int .i64 48, .int .i64 64]) (.int .i64 3)) w' = .ok (.int .i64 64) w' := fun w' => run_index_row w' _ _ 4 .i64 [20, 32, 48, 64] 3 Tryd.underlying47 Tryd.underlying3 Tryd.one_int rfl (by decide)
    go_enter Tryd.func18, Tryd.ntmps18; go_wp2; go_ret; exact ⟨rfl, rfl⟩
  rw [if_neg h1, if_neg h2, if_neg h3, if_neg h4]
  by_cases h5 : alg < 1
  · go_enter Tryd.func18, Tryd.ntmps18; go_wp2; go_ret; exact ⟨rfl, rfl⟩
  · have h6 : 4 < alg := by omega
    go_enter Tryd.func18, Tryd.ntmps18; go_wp2; go_ret; exact ⟨rfl, rfl⟩

theorem RBlock_any {w : World} (alg : Int) : Calls Tryd.prog 20 #[.int .i64 alg] w fun e w' => e = .returned (.int .i64 (blk alg)) ∧ w = w' := by
  unfold blk
  by_cases h1 : alg = 1
  · subst h1
    have hx : ∀ w' : World, Sem.run Tryd.prog (Instr.index 47 (.agg #[.int .i64 64, .int .i64 64, .int .i64 128, .int .i64 128]) (.int .i64 0)) w' = .ok (.int .i64 64) w' := fun w' => run_index_row w' _ _ 4 .i64 [64, 64, 128, 128] 0 Tryd.underlying47 Tryd.underlying3 Tryd.one_int rfl (by decide)
    go_enter Tryd.func20, Tryd.ntmps20; go_wp2; go_ret; exact ⟨rfl, rfl⟩
  by_cases h2 : alg = 2
  · subst h2
    have hx : ∀ w' : World, Sem.run Tryd.prog (Instr.index 47 (.agg #[.int .i64 64, .int .i64 64, .int .i64 128, .int .i64 128]) (.int .i64 1)) w' = .ok (.int .i64 64) w' := fun w' => run_index_row w' _ _ 4 .i64 [64, 64, 128, 128] 1 Tryd.underlying47 Tryd.underlying3 Tryd.one_int rfl (by decide)
    go_enter Tryd.func20, Tryd.ntmps20; go_wp2; go_ret; exact ⟨rfl, rfl⟩
  by_cases h3 : alg = 3
  · subst h3
    have hx : ∀ w' : World, Sem.run Tryd.prog (Instr.index 47 (.agg #[.int .i64 64, .int .i64 64, .int .i64 128, .int .i64 128]) (.int .i64 2)) w' = .ok (.int .i64 128) w' := fun w' => run_index_row w' _ _ 4 .i64 [64, 64, 128, 128] 2 Tryd.underlying47 Tryd.underlying3 Tryd.one_int rfl (by decide)
    go_enter Tryd.func20, Tryd.ntmps20; go_wp2; go_ret; exact ⟨rfl, rfl⟩
  by_cases h4 : alg = 4
  · subst h4
    have hx : ∀ w' : World, Sem.run Tryd.prog (Instr.index 47 (.agg #[.int .i64 64, .int .i64 64, .int .i64 128, .int .i64 128]) (.int .i64 3)) w' = .ok (.int .i64 128) w' := fun w' => run_index_row w' _ _ 4 .i64 [64, 64, 128, 128] 3 Tryd.underlying47 Tryd.underlying3 Tryd.one_int rfl (by decide)
    go_enter Tryd.func20, Tryd.ntmps20; go_wp2; go_ret; exact ⟨rfl, rfl⟩
  rw [if_neg h1, if_neg h2, if_neg h3, if_neg h4]
  by_cases h5 : alg < 1
  · go_enter Tryd.func20, Tryd.ntmps20; go_wp2; go_ret; exact ⟨rfl, rfl⟩
  · have h6 : 4 < alg := by omega
    go_enter Tryd.func20, Tryd.ntmps20; go_wp2; go_ret; exact ⟨rfl, rfl⟩

/-- A slice of slices of bytes, as an argument has it. -/
structure Lists (w : World) (a : Option Addr) (n c : Nat) (vs : List Value) (ms : List (List Int)) : Prop where
  sls : SlS w (.slice a n c) vs
  msgs : Msgs w vs ms
  len : ms.length = n
theorem Lists.at {w : World} {a : Option Addr} {n c : Nat} {vs : List Value} {ms : List (List Int)} (h : Lists w a n c vs ms) (i : Nat) (hi : i < n) :
    ∃ b off ai ni ci, a = some ⟨b, off, none⟩ ∧ b < w.heap.size ∧ vs.getD i undef = .slice ai ni ci ∧ w.cell? ⟨b, off + i, none⟩ = some (.slice ai ni ci) ∧ Sl .u8 w (.slice ai ni ci) (ms.getD i []) ∧ U8s (ms.getD i []) ∧ (ms.getD i []).length = ni := by
  have hv : vs.length = n := by rw [h.msgs.1, h.len]
  obtain ⟨a', c', hva, hc, hx⟩ := h.sls
  simp only [Value.slice.injEq] at hva
  obtain ⟨rfl, _, rfl⟩ := hva
  rcases hx with hx | ⟨b, off, rfl, hb, hcell⟩
  · rw [hx] at hv; simp at hv; omega
  · have h1 := (h.msgs.2 i (by omega))
    obtain ⟨ai, ci, hvi, hci, hxi⟩ := h1.1
    refine ⟨b, off, ai, _, ci, rfl, hb, hvi, ?_, ?_, h1.2, rfl⟩
    · rw [hcell i (by omega), hvi]
    · rw [← hvi]; exact h1.1
/-- Does 'much' say so? -/
def muchB (ms : List (List Int)) (most : Nat) : Bool := decide (most < ms.flatten.length) || decide (1000 < ms.length)
set_option maxRecDepth 20000 in
set_option maxHeartbeats 1000000 in
theorem much_any {w : World} (a : Option Addr) (n c most : Nat) (vs : List Value) (ms : List (List Int)) (h : Lists w a n c vs ms) (hm : most ≤ 1000000) (hn : n ≤ 9223372036854775807) (hl : ∀ i, i < n → (ms.getD i []).length ≤ 9223372036854775807) :
    Calls Tryd.prog 9 #[.slice a n c, .int .i64 most] w fun e w' => e = .returned (.bool (muchB ms most)) ∧ w = w' := by
  have HL : Hid (Lists w a n c vs ms) := h
  have hlen := h.len
  clear h
  go_enter Tryd.func9, Tryd.ntmps9
  go_wp2
  go_loop [5, 6] (fun nv iv => ∃ i s : Nat, iv = .int .i64 i ∧ nv = .int .i64 s ∧ i ≤ n ∧ s = (ms.take i).flatten.length ∧ s ≤ most ∧ i ≤ 1000) (fun _ iv => n - (intOf iv).toNat)
  case atStart => exact ⟨0, 0, rfl, rfl, by omega, rfl, by omega, by omega⟩
  case round =>
    obtain ⟨i, s, rfl, rfl, hi, hs, hsm, hi1⟩ := hrel
    by_cases hlt : i < n
    · obtain ⟨b, off, ai, ni, ci, rfl, hb, _, hcell, _, _, hni⟩ := HL.out.at i hlt
      have hft : (ms.take (i + 1)).flatten.length = s + ni := by rw [flatten_take (by omega), List.length_append, ← hs, hni]
      have hle := flatten_take_le ms (i + 1)
      have hnb : ni ≤ 9223372036854775807 := by rw [← hni]; exact hl i hlt
      have hiI : (i : Int) < (n : Int) := by omega
      by_cases hbig : most < s + ni
      · have HB : Hid (muchB ms most = true) := by unfold muchB; rw [decide_eq_true (by omega)]; rfl
        have hbI : (most : Int) - (s : Int) < (ni : Int) := by omega
        clear hs hft hle hni hlen
        go_wp2
        go_ret
        exact ⟨by rw [HB.out]; rfl, rfl⟩
      · have hbI : (ni : Int) ≤ (most : Int) - (s : Int) := by omega
        by_cases h1000 : 1000 ≤ i
        · have HB : Hid (muchB ms most = true) := by
            show muchB ms most = true
            unfold muchB; rw [decide_eq_true (p := 1000 < ms.length) (by omega)]; simp
          have h1I : (1000 : Int) ≤ (i : Int) := by omega
          clear hs hft hle hni hlen
          go_wp2
          go_ret
          exact ⟨by rw [HB.out]; rfl, rfl⟩
        · have h1I : (i : Int) < 1000 := by omega
          have HF : Hid (s + ni = (ms.take (i + 1)).flatten.length) := hft.symm
          clear hs hft hle hni hlen
          go_wp2
          go_round
          case rel => exact ⟨i + 1, s + ni, by go_num, by go_num, by omega, HF.out, by omega, by omega⟩
          case measure => simp [intOf]; omega
    · obtain rfl : i = n := by omega
      have HB : Hid (muchB ms most = false) := by
        have e : ms.take i = ms := List.take_of_length_le (by omega)
        rw [e] at hs
        unfold muchB; rw [decide_eq_false (by omega), decide_eq_false (by omega)]; rfl
      clear hs hlen
      go_wp2
      go_ret
      exact ⟨by rw [HB.out]; rfl, rfl⟩
end Go.Proofs.YtgipmjpkaemdkaaDoor
