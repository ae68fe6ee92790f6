/-
  Digest: Sum of lists.
-/
import Derived.Laws.BytesArg
import Derived.Lib.SlBytesConst
import Derived.Test.YtndoibmpnhkmpaaGreatDoorK27
namespace Go.Proofs.YtndoibmpnhkmpaaGreatDoor.Sh
open Go.RowKit
set_option maxRecDepth 20000
/-- The slice v holds the values vs. -/
def SlS (w : World) (v : Value) (vs : List Value) : Prop :=
  ∃ a c, v = .slice a vs.length c ∧ vs.length ≤ c ∧ (vs = [] ∨ ∃ b off, a = some ⟨b, off, none⟩ ∧ b < w.heap.size ∧ ∀ i, i < vs.length → w.cell? ⟨b, off + i, none⟩ = some (vs.getD i undef))
/-- The values are slices that read the lists. -/
def Msgs (w : World) (vs : List Value) (ms : List (List Int)) : Prop := vs.length = ms.length ∧ ∀ i, i < vs.length → Sl .u8 w (vs.getD i undef) (ms.getD i []) ∧ U8s (ms.getD i [])
theorem Msgs.below {w w' : World} {vs : List Value} {ms : List (List Int)} (h : Msgs w vs ms) (hb : Below w.heap.size w w') : Msgs w' vs ms := ⟨h.1, fun i hi => ⟨below_sl hb (h.2 i hi).1, (h.2 i hi).2⟩⟩
theorem SlS.below {w w' : World} {v : Value} {vs : List Value} (h : SlS w v vs) (hb : Below w.heap.size w w') : SlS w' v vs := by
  obtain ⟨a, c, rfl, hc, h⟩ := h
  refine ⟨a, c, rfl, hc, ?_⟩
  rcases h with h | ⟨b, off, rfl, hbl, hr⟩
  · exact .inl h
  · exact .inr ⟨b, off, rfl, Nat.lt_of_lt_of_le hbl hb.size, fun i hi => (hb.cell (p := ⟨b, off + i, none⟩) hbl).trans (hr i hi)⟩
theorem Sl.x {w w' : World} {v : Value} {xs : List Int} (h : Sl .u8 w v xs) (hb : Below w.heap.size w w') : SlX w' w.heap.size v xs := by
  obtain ⟨a, c, rfl, hc, h⟩ := h
  refine ⟨a, c, rfl, hc, ?_⟩
  rcases h with h | ⟨b, off, rfl, hbl, hr⟩
  · exact .inl h
  · exact .inr ⟨b, off, rfl, Nat.lt_of_lt_of_le hbl hb.size, by omega, below_rd hb hbl hr⟩
theorem flatten_u8 {ms : List (List Int)} (h : ∀ i, i < ms.length → U8s (ms.getD i [])) : U8s ms.flatten := by
  intro x hx
  obtain ⟨l, hl, hxl⟩ := List.mem_flatten.1 hx
  obtain ⟨i, hi, rfl⟩ := List.mem_iff_getElem.1 hl
  have := h i hi
  simp [hi] at this
  exact this x hxl
theorem flatten_take {ms : List (List Int)} {i : Nat} (hi : i < ms.length) : (ms.take (i + 1)).flatten = (ms.take i).flatten ++ ms.getD i [] := by
  rw [List.take_succ_eq_append_getElem hi, List.flatten_append, List.getD_eq_getElem?_getD, List.getElem?_eq_getElem hi]
  simp only [List.flatten_cons, List.flatten_nil, List.append_nil, Option.getD_some]
theorem flatten_take_le (ms : List (List Int)) (i : Nat) : (ms.take i).flatten.length ≤ ms.flatten.length := by
  have h : ms.flatten = (ms.take i).flatten ++ (ms.drop i).flatten := by rw [← List.flatten_append, List.take_append_drop]
  rw [h, List.length_append]; omega
set_option maxHeartbeats 1000000 in
theorem Sum_any {w : World} (alg : Int) (ha : Alg alg) (hT : Tabs w) (v : Value) (vs : List Value) (ms : List (List Int)) (hv : SlS w v vs) (hm : Msgs w vs ms) (hn : ms.flatten.length ≤ 16777216) (hk : ms.length ≤ 1152921504606846976) :
    Calls Tryz.prog 52 #[.int .i64 alg, v] w fun e w' => ∃ d, e = .returned (.tuple #[.slice (some ⟨d, 0, none⟩) (siz alg) (siz alg), .int .i64 0]) ∧ w.heap.size ≤ d ∧ Arr .u8 5 w' d (dig alg ms.flatten) ∧ Below w.heap.size w w' := by
  obtain ⟨a, c, rfl, hc, hv⟩ := hv
  have HM : Hid (Msgs w vs ms ∧ Tabs w) := ⟨hm, hT⟩
  have hl := hm.1
  have hz7 := hT.size
  have HU : Hid (U8s ms.flatten) := flatten_u8 (fun i hi => (hm.2 i (by omega)).2)
  obtain ⟨k, hke⟩ : ∃ k, vs.length = k := ⟨_, rfl⟩
  rw [hke] at hc hl
  have HV : Hid (vs = [] ∨ ∃ b off, a = some ⟨b, off, none⟩ ∧ b < w.heap.size ∧ ∀ i, i < k → w.cell? ⟨b, off + i, none⟩ = some (vs.getD i undef)) := by rw [← hke]; exact hv
  simp only [hke]
  clear hm hT hv
  go_enter Tryz.func52, Tryz.ntmps52
  go_wp2_with (go_at_call 85; refine (New_any alg ha HM.out.2).mono ?_; rintro e w1 ⟨g1, rfl, hg1, hh1, hb1⟩; have HH1 : Hid (HashIs w1 g1 alg [] ∧ Below w.heap.size w w1) := ⟨hh1, hb1⟩; clear hh1 hb1)
  go_loopw [21] (fun iv wr => ∃ i : Nat, iv = .int .i64 i ∧ i ≤ k ∧ HashIs wr g1 alg (ms.take i).flatten ∧ Below w.heap.size w wr) (fun iv _ => k - (intOf iv).toNat)
  case atStart => exact ⟨0, rfl, by omega, HH1.out⟩
  case round =>
    obtain ⟨i, rfl, hi, hH, hBw⟩ := hrel
    by_cases hlt : i < k
    · rcases HV.out with hnil | ⟨b, off, rfl, hbl, hcell⟩
      · rw [hnil] at hke; simp at hke; omega
      · have hci := hcell i hlt
        obtain ⟨hsl, hu8⟩ := HM.out.1.2 i (by omega)
        have hx := Sl.xg hsl hBw hg1
        have hxl : (ms.getD i []).length ≤ ms.flatten.length ∧ (ms.take i).flatten.length + (ms.getD i []).length ≤ ms.flatten.length := by
          have := flatten_take_le ms (i + 1); rw [flatten_take (by omega), List.length_append] at this; omega
        have HW : Hid (∀ w', w' = wr → Calls Tryz.prog _ _ w' _) := fun w' hw => by
          rw [hw]; exact Write_any (w := wr) g1 alg ha (ms.take i).flatten (ms.getD i []) hH (by omega) (HM.out.2.below hBw) _ hx (fun x hx => by obtain ⟨l, h1, h2⟩ := List.mem_flatten.1 hx; exact HU.out x (List.mem_flatten.2 ⟨l, List.mem_of_mem_take h1, h2⟩)) hu8 (by omega) (by omega) (by omega)
        have hcr : wr.cell? ⟨b, off + i, none⟩ = some (vs.getD i undef) := by rw [hBw.cell (p := ⟨b, off + i, none⟩) hbl]; exact hci
        obtain ⟨ai, ci, hvi, _, _⟩ := hsl
        rw [hvi] at hcr HW
        have hft : (ms.take (i + 1)).flatten = (ms.take i).flatten ++ ms.getD i [] := flatten_take (by omega)
        obtain ⟨m, hme⟩ : ∃ m, ms.getD i [] = m := ⟨_, rfl⟩
        obtain ⟨P0, hP0⟩ : ∃ m, (ms.take i).flatten = m := ⟨_, rfl⟩
        rw [hme] at hcr hft
        rw [hP0] at hft
        simp only [hme, hP0] at HW
        obtain ⟨n, hne⟩ : ∃ n, m.length = n := ⟨_, rfl⟩
        rw [hne] at hcr HW
        have HN : Hid (Below w.heap.size w wr ∧ (ms.take (i + 1)).flatten = P0 ++ m) := ⟨hBw, hft⟩
        clear hft hne hme hP0
        clear hci hx hvi hcell hH hBw hxl
        have hiI : (i : Int) < (k : Int) := by omega
        go_wp2_with (go_at_call 86; refine (HW.out _ rfl).mono ?_; rintro e w2 ⟨rfl, hh2, hu2⟩; have HH2 : Hid (HashIs w2 g1 alg (P0 ++ m) ∧ Upd wr w2 g1) := ⟨hh2, hu2⟩; clear hh2 hu2)
        go_roundw
        case rel =>
          exact ⟨i + 1, by go_num, by omega, by rw [HN.out.2]; exact HH2.out.1, HH2.out.2.below HN.out.1 HN.out.1.size hg1⟩
        case measure => simp [intOf]; omega
    · obtain rfl : i = k := by omega
      have e : ms.take i = ms := List.take_of_length_le (by omega)
      rw [e] at hH
      have HN : Hid (HashIs wr g1 alg ms.flatten ∧ Below w.heap.size w wr) := ⟨hH, hBw⟩
      clear e hH hBw
      go_wp2_with (go_at_call 87; refine (SumM_any g1 alg ha ms.flatten HN.out.1 (HM.out.2.below HN.out.2) HU.out hn).mono ?_; rintro e w2 ⟨d, rfl, hd, hA, hb2⟩; have HF : Hid (w.heap.size ≤ d ∧ Arr .u8 5 w2 d (dig alg ms.flatten) ∧ Below w.heap.size w w2) := ⟨Nat.le_trans HN.out.2.size hd, hA, HN.out.2.trans (hb2.mono HN.out.2.size)⟩; clear hA hb2)
      go_ret2
      exact ⟨d, rfl, HF.out⟩
end Go.Proofs.YtndoibmpnhkmpaaGreatDoor.Sh
/-
  Digest: SameBytes, num; known digests.
-/
namespace Go.Proofs.YtndoibmpnhkmpaaGreatDoor.Sh
open Go.RowKit
set_option maxRecDepth 20000
set_option maxHeartbeats 1000000 in
theorem SameBytes_any {w : World} (v u : Value) (xs : List Int) (hx : Sl .u8 w v xs) (hy : Sl .u8 w u xs) (lx : xs.length ≤ 1152921504606846976) :
    Calls Tryz.prog 14 #[v, u] w fun e w' => e = .returned (.bool true) ∧ Below w.heap.size w w' := by
  obtain ⟨a1, c1, rfl, hc1, h1⟩ := hx
  obtain ⟨a2, c2, rfl, hc2, h2⟩ := hy
  by_cases hne : xs = []
  · subst hne
    simp only [List.length_nil]
    go_enter Tryz.func14, Tryz.ntmps14
    go_wp2
    go_loop [5] (fun i => i = .int .i64 0) (fun _ => 0)
    case atStart => rfl
    case round =>
      subst hrel
      go_wp2
      go_ret
      exact ⟨rfl, Below.refl _ _⟩
  · rcases h1 with h1 | ⟨b1, o1, rfl, hb1, hr1⟩
    · exact absurd h1 hne
    rcases h2 with h2 | ⟨b2, o2, rfl, hb2, hr2⟩
    · exact absurd h2 hne
    obtain ⟨n, hn⟩ : ∃ n, xs.length = n := ⟨_, rfl⟩
    rw [hn] at lx hc1 hc2 ⊢
    have HN : Hid (xs.length = n) := hn
    clear hn hne
    go_enter Tryz.func14, Tryz.ntmps14
    go_wp2
    go_loopw [5] (fun i wr => ∃ k : Nat, k ≤ n ∧ i = .int .i64 k ∧ Below w.heap.size w wr) (fun i _ => n - (intOf i).toNat)
    case atStart => exact ⟨0, Nat.zero_le _, rfl, Below.refl _ _⟩
    case round =>
      obtain ⟨k, hk, rfl, hB⟩ := hrel
      by_cases hkn : k < n
      · obtain ⟨x, hx⟩ : ∃ x, xs.getD k 0 = x := ⟨_, rfl⟩
        have hcx : wr.cell? ⟨b1, o1 + k, none⟩ = some (.int .u8 x) := by rw [← hx]; exact (below_rd hB hb1 hr1) k (by rw [HN.out]; exact hkn)
        have hcy : wr.cell? ⟨b2, o2 + k, none⟩ = some (.int .u8 x) := by rw [← hx]; exact (below_rd hB hb2 hr2) k (by rw [HN.out]; exact hkn)
        have HB : Hid (Below w.heap.size w wr) := hB
        clear hx hB hr1 hr2
        go_wp2
        go_quiet (fail)
        go_wp2
        go_roundw
        case rel => exact ⟨k + 1, by omega, by go_num, HB.out.trans ⟨rfl, rfl, rfl, Nat.le_refl _, fun _ _ => rfl⟩⟩
        case measure => simp [intOf]; omega
      · have HB : Hid (Below w.heap.size w wr) := hB
        clear hB
        go_wp2
        go_ret
        exact ⟨rfl, HB.out⟩

end Go.Proofs.YtndoibmpnhkmpaaGreatDoor.Sh
/-
  Digest: live: the page's example.
-/
namespace Go.Proofs.YtndoibmpnhkmpaaGreatDoor.Sh
open Go.RowKit
set_option maxRecDepth 20000
theorem arr_newB {k : IntKind} {e : TypeId} {w : World} {S : List Int} {cs : List Value} (h : cs = S.map (Value.int k)) : Arr k e (w.alloc (.cells cs.toArray e)) w.heap.size S := by subst h; exact Blk.new e w _
theorem Arr.sl {k : IntKind} {e : TypeId} {w : World} {b : Nat} {S : List Int} (h : Arr k e w b S) : Sl k w (.slice (some ⟨b, 0, none⟩) S.length S.length) S :=
  ⟨_, _, rfl, Nat.le_refl _, .inr ⟨b, 0, rfl, h.lt, by have := h.rd 0 S.length (by omega); simpa using this⟩⟩
theorem Blk.sls {T : TypeId} {w : World} {b : Nat} {vs : List Value} (h : Blk T w b vs) : SlS w (.slice (some ⟨b, 0, none⟩) vs.length vs.length) vs :=
  ⟨_, _, rfl, Nat.le_refl _, .inr ⟨b, 0, rfl, h.lt, fun i hi => by rw [h.cell]; simp [hi]⟩⟩
theorem Tryz.e8 : Tryz.prog.underlying 5 = some (.int .u8) := by kernel_rfl
theorem Tryz.str : Tryz.prog.underlying 9 = some .string := by kernel_rfl
/-- A new row of numbers, marked or not, reads them. -/
theorem new_sl {k : IntKind} {e : TypeId} {w : World} (S : List Int) (fr : Nat × Nat) : Sl k (w.alloc (.cells (S.map (Value.int k)).toArray e fr)) (.slice (some ⟨w.heap.size, 0, none⟩) S.length S.length) S :=
  ⟨_, _, rfl, Nat.le_refl _, .inr ⟨w.heap.size, 0, rfl, by simp, fun i hi => by
    rw [cell_of_row _ _ _ (S.map (Value.int k)).toArray e fr (heap_alloc_new _ _)]
    simp [hi]⟩⟩
theorem sl_alloc {k : IntKind} {w : World} {v : Value} {S : List Int} (h : Sl k w v S) (o : Obj) : Sl k (w.alloc o) v S := below_sl ((Below.refl _ _).alloc (Nat.le_refl _) o) h
end Go.Proofs.YtndoibmpnhkmpaaGreatDoor.Sh
/-
  Digest: the law DigestApart: two digests under way know nothing of one another.
-/
namespace Go.Proofs.YtndoibmpnhkmpaaGreatDoor.Sh
open Go.RowKit
set_option maxRecDepth 20000
/-- A digest in a block of its own, from B on. -/
def Dg (B : Nat) (w : World) (v : Value) (xs : List Int) : Prop := ∃ d n, v = .slice (some ⟨d, 0, none⟩) n n ∧ xs.length = n ∧ B ≤ d ∧ Arr .u8 5 w d xs
theorem Dg.sl {B : Nat} {w : World} {v : Value} {xs : List Int} (h : Dg B w v xs) : Sl .u8 w v xs := by
  obtain ⟨d, n, rfl, rfl, _, hA⟩ := h; exact Arr.sl hA
theorem Dg.below {B : Nat} {w w' : World} {v : Value} {xs : List Int} (h : Dg B w v xs) (hb : Below w.heap.size w w') : Dg B w' v xs := by
  obtain ⟨d, n, rfl, hn, hB, hA⟩ := h; exact ⟨d, n, rfl, hn, hB, below_arr hb hA.lt hA⟩
theorem al1 {w : World} (o : Obj) : Below w.heap.size w (w.alloc o) := (Below.refl _ _).alloc (Nat.le_refl _) o
theorem below_via {B : Nat} {w w1 w2 : World} (h : Below B w w1) (h' : Below w1.heap.size w1 w2) (hB : B ≤ w.heap.size) : Below B w w2 := h.trans (h'.mono (Nat.le_trans hB h.size))
end Go.Proofs.YtndoibmpnhkmpaaGreatDoor.Sh
/-
  Digest: the reference's left, right, turn, filled.
-/
namespace Go.Proofs.YtndoibmpnhkmpaaGreatDoor.Sh
open Go.RowKit
set_option maxRecDepth 20000
theorem bits_or_comm (k : IntKind) (x y : Int) : bits .or k x y = bits .or k y x := by unfold bits; simp only []; rw [BitVec.or_comm]

set_option maxHeartbeats 1000000 in
theorem left_nat {w : World} (x : Int) (n : Nat) (hx : U32 x) (h1 : 1 ≤ n) (h2 : n ≤ 31) :
    Calls Tryz.prog 88 #[.int .u32 x, .int .i64 n] w fun e w' => e = .returned (.int .u32 (rot32 x n)) ∧ ∃ q, w' = w.drewN q := by
  obtain ⟨hx0, hx1⟩ := hx
  obtain ⟨m, hm⟩ : ∃ m, 32 - n = m := ⟨_, rfl⟩
  have hmI : (32 : Int) - (n : Int) = (m : Int) := by omega
  have HV : Hid (rot32 x n = bits .or .u32 (IntKind.u32.wrap (x * 2 ^ n)) (x / 2 ^ m)) := by unfold rot32; rw [hm]; rfl
  have hm0 : m ≤ 32 := by omega
  clear hm
  go_enter Tryz.func88, Tryz.ntmps88
  go_wp2
  go_quiet (fail)
  go_wp2
  go_ret
  exact ⟨by rw [HV.out]; rfl, _, rfl⟩
theorem left_I (x n : Int) (w : World) (hx : U32 x) (h : 1 ≤ n ∧ n ≤ 31) :
    Calls Tryz.prog 88 #[.int .u32 x, .int .i64 n] w fun e w' => e = .returned (.int .u32 (rot32 x n.toNat)) ∧ ∃ q, w' = w.drewN q := by
  obtain ⟨n, rfl⟩ := Int.eq_ofNat_of_zero_le (show 0 ≤ n by omega)
  rw [Int.toNat_natCast]
  exact left_nat x n hx (by omega) (by omega)

set_option maxHeartbeats 1000000 in
theorem right_nat {w : World} (x : Int) (n : Nat) (hx : U32 x) (h1 : 1 ≤ n) (h2 : n ≤ 31) :
    Calls Tryz.prog 90 #[.int .u32 x, .int .i64 n] w fun e w' => e = .returned (.int .u32 (rot32 x (32 - n))) ∧ ∃ q, w' = w.drewN q := by
  obtain ⟨hx0, hx1⟩ := hx
  obtain ⟨m, hm⟩ : ∃ m, 32 - n = m := ⟨_, rfl⟩
  have hmI : (32 : Int) - (n : Int) = (m : Int) := by omega
  have HV : Hid (rot32 x (32 - n) = bits .or .u32 (x / 2 ^ n) (IntKind.u32.wrap (x * 2 ^ m))) := by unfold rot32; rw [hm, show 32 - m = n by omega]; exact bits_or_comm _ _ _
  have hm0 : m ≤ 32 := by omega
  clear hm
  go_enter Tryz.func90, Tryz.ntmps90
  go_wp2
  go_quiet (fail)
  go_wp2
  go_ret
  exact ⟨by rw [HV.out]; rfl, _, rfl⟩
theorem right_I (x n : Int) (w : World) (hx : U32 x) (h : 1 ≤ n ∧ n ≤ 31) :
    Calls Tryz.prog 90 #[.int .u32 x, .int .i64 n] w fun e w' => e = .returned (.int .u32 (rot32 x (32 - n.toNat))) ∧ ∃ q, w' = w.drewN q := by
  obtain ⟨n, rfl⟩ := Int.eq_ofNat_of_zero_le (show 0 ≤ n by omega)
  rw [Int.toNat_natCast]
  exact right_nat x n hx (by omega) (by omega)

set_option maxHeartbeats 1000000 in
theorem turn_nat {w : World} (x : Int) (n : Nat) (hx : U64 x) (h1 : 1 ≤ n) (h2 : n ≤ 63) :
    Calls Tryz.prog 92 #[.int .u64 x, .int .i64 n] w fun e w' => e = .returned (.int .u64 (rot64 x (64 - n))) ∧ ∃ q, w' = w.drewN q := by
  obtain ⟨hx0, hx1⟩ := hx
  obtain ⟨m, hm⟩ : ∃ m, 64 - n = m := ⟨_, rfl⟩
  have hmI : (64 : Int) - (n : Int) = (m : Int) := by omega
  have HV : Hid (rot64 x (64 - n) = bits .or .u64 (x / 2 ^ n) (IntKind.u64.wrap (x * 2 ^ m))) := by unfold rot64; rw [hm, show 64 - m = n by omega]; exact bits_or_comm _ _ _
  have hm0 : m ≤ 64 := by omega
  clear hm
  go_enter Tryz.func92, Tryz.ntmps92
  go_wp2
  go_quiet (fail)
  go_wp2
  go_ret
  exact ⟨by rw [HV.out]; rfl, _, rfl⟩
theorem turn_I (x n : Int) (w : World) (hx : U64 x) (h : 1 ≤ n ∧ n ≤ 63) :
    Calls Tryz.prog 92 #[.int .u64 x, .int .i64 n] w fun e w' => e = .returned (.int .u64 (rot64 x (64 - n.toNat))) ∧ ∃ q, w' = w.drewN q := by
  obtain ⟨n, rfl⟩ := Int.eq_ofNat_of_zero_le (show 0 ≤ n by omega)
  rw [Int.toNat_natCast]
  exact turn_nat x n hx (by omega) (by omega)
end Go.Proofs.YtndoibmpnhkmpaaGreatDoor.Sh
/-
  Digest: the reference's filled: the message filled up to whole blocks.
-/
namespace Go.Proofs.YtndoibmpnhkmpaaGreatDoor.Sh
open Go.RowKit
set_option maxRecDepth 20000
theorem be_at (r m j : Nat) (hj : j < r) : (be r m).getD j 0 = ((m / 256 ^ (r - 1 - j) % 256 : Nat) : Int) := by
  induction r generalizing j with
  | zero => omega
  | succ r ih =>
    cases j with
    | zero => simp [be]
    | succ j =>
      have := ih j (by omega)
      rw [show r + 1 - 1 - (j + 1) = r - 1 - j by omega, ← this]
      simp [be]
theorem be_take (r m j : Nat) (hj : j < r) : (be r m).take (j + 1) = (be r m).take j ++ [((m / 256 ^ (r - 1 - j) % 256 : Nat) : Int)] := by
  rw [List.take_succ_eq_append_getElem (by rw [be_len]; exact hj)]
  have := be_at r m j hj
  rw [List.getD_eq_getElem?_getD, List.getElem?_eq_getElem (by rw [be_len]; exact hj)] at this
  simp only [Option.getD_some] at this
  rw [this]
theorem sh_byte (N p s : Nat) (hs : 8 * p = s) : (8 * (N : Int)) / 2 ^ s % 256 = ((N * 8 / 256 ^ p % 256 : Nat) : Int) := by
  have e : (256 : Nat) ^ p = 2 ^ s := by rw [← hs, Nat.pow_mul]
  rw [e, Int.natCast_emod, Int.natCast_ediv, Int.natCast_pow, Int.natCast_mul, Int.mul_comm]
  rfl
theorem sh_zero (N p : Nat) (hN : N ≤ 16777216) (hp : 8 ≤ p) : (0 : Int) = ((N * 8 / 256 ^ p % 256 : Nat) : Int) := by
  have : 256 ^ 8 ≤ 256 ^ p := Nat.pow_le_pow_right (by decide) hp
  rw [Nat.div_eq_of_lt (by omega)]; rfl
theorem new1 {w : World} {e : TypeId} (x : Int) : Sl .u8 (w.alloc (.cells #[.int .u8 x] e)) (.slice (some ⟨w.heap.size, 0, none⟩) 1 1) [x] := new_sl [x] (0, 0)
theorem row0 {w : World} : Row .u8 5 w.heap.size (w.alloc (.cells #[] 5)) (.slice (some ⟨w.heap.size, 0, none⟩) 0 0) [] := Row.arr (S := []) (Blk.new 5 w []) (Nat.le_refl _) (by decide)
theorem al2 {a w : World} {o : Obj} (h : Below a.heap.size a w) : Below a.heap.size a (w.alloc o) := h.alloc h.size o

set_option maxHeartbeats 2000000 in
theorem filled_64 {w : World} (v : Value) (X : List Int) (hX : Sl .u8 w v X) (hl : X.length ≤ 16777216) :
    Calls Tryz.prog 56 #[v, .int .i64 64] w fun e w' => ∃ r, e = .returned r ∧ Row .u8 5 w.heap.size w' r (X ++ fill X.length 64) ∧ Below w.heap.size w w' := by
  obtain ⟨a, cp, rfl, hcp⟩ : ∃ a c, v = .slice a X.length c ∧ X.length ≤ c := by obtain ⟨a, c, h, h', _⟩ := hX; exact ⟨a, c, h, h'⟩
  obtain ⟨N, hN⟩ : ∃ n, X.length = n := ⟨_, rfl⟩
  have HX : Hid (Sl .u8 w (.slice a N cp) X ∧ X.length = N) := ⟨by rw [← hN]; exact hX, hN⟩
  rw [hN] at hl hcp
  simp only [hN]
  obtain ⟨Z, hZ⟩ : ∃ z, 64 - 1 - (N + 8) % 64 = z := ⟨_, rfl⟩
  have hmod := Nat.mod_lt (N + 8) (show 0 < 64 by decide)
  have HF : Hid (fill N 64 = 128 :: (List.replicate Z 0 ++ be 8 (N * 8))) := by
    show fill N 64 = _
    unfold fill fillLen
    rw [show 64 - (N + 64 / 8) % 64 + 64 / 8 - 1 - 64 / 8 = Z by omega]
  have HZ : Hid (∀ z, z ≤ Z → (((N : Int) + 1 + z + 8) % 64 = 0 ↔ z = Z)) := fun z hz => by omega
  have hZ2 : Z < 64 := by omega
  clear hX hN hZ hmod
  go_enter Tryz.func56, Tryz.ntmps56
  go_wp2_with (first
    | (at_builtin; replace hr1 := hr1; refine wpList_ap rfl (.tmp 13) (.tmp 14) 25 25 rfl .u8 5 1 Tryz.und8 Tryz.info8 (by decide) w.heap.size _ _ rfl (hr1.alloc _) _ [128] rfl (src_sl Tryz.und8 (new1 128)) (by have := HX.out.2; simp; omega) (by have := hB1.size; simp at this ⊢; omega) ?_; intro v2 w2 hr2 hg2; have hB2 := hg2.below (hr1.alloc _) (by have := hB1.size; simp at this ⊢; omega); have HR2 : Hid (Row .u8 5 w.heap.size w2 v2 (X ++ [128]) ∧ Below w.heap.size w w2) := ⟨hr2, (al2 hB1).trans hB2⟩; clear hr2 hg2 hB2 hr1 hB1)
    | (at_builtin; refine wpList_ap rfl (.tmp 11) (.tmp 12) 25 25 rfl .u8 5 1 Tryz.und8 Tryz.info8 (by decide) w.heap.size _ _ rfl row0 _ X rfl (src_sl Tryz.und8 (below_sl (al1 _) HX.out.1)) (by have := HX.out.2; simp; omega) (by simp) ?_; intro v1 w1 hr1 hg1; have hB1 : Below w.heap.size w w1 := (al1 _).trans (hg1.below row0 (by simp)); clear hg1))
  go_loopw [6] (fun mv wr => ∃ z : Nat, z ≤ Z ∧ Row .u8 5 w.heap.size wr mv (X ++ 128 :: List.replicate z 0) ∧ Below w.heap.size w wr) (fun mv _ => 64 + N + 1 - lenOf mv)
  case atStart => exact ⟨0, by omega, HR2.out⟩
  case round =>
    obtain ⟨z, hz, hr, hBw⟩ := hrel
    obtain ⟨L, hL⟩ : ∃ l, (X ++ 128 :: List.replicate z (0 : Int)).length = l := ⟨_, rfl⟩
    have hL2 : L = N + 1 + z := by rw [← hL]; have := HX.out.2; simp; omega
    obtain ⟨av, cv, hv⟩ := hr.ne
    rw [hL] at hv
    subst hv
    have HR : Hid (Row .u8 5 w.heap.size wr (.slice av L cv) (X ++ 128 :: List.replicate z 0) ∧ Below w.heap.size w wr) := ⟨hr, hBw⟩
    have HL : Hid ((X ++ 128 :: List.replicate z (0 : Int)).length = L) := hL
    have hLs : L ≤ 16778000 := by omega
    have HL2 : Hid (L = N + 1 + z) := hL2
    have hzz := HZ.out z hz
    clear hr hBw hL hL2
    by_cases hlt : z < Z
    · have hne : ¬ ((L : Int) + 8) % 64 = 0 := by intro h; have := hzz.1 (by rw [← h, HL2.out]; congr 1 <;> omega); omega
      clear hzz
      go_wp2_with (at_builtin; refine wpList_ap rfl (.tmp 23) (.tmp 24) 25 25 rfl .u8 5 1 Tryz.und8 Tryz.info8 (by decide) w.heap.size _ _ rfl (HR.out.1.alloc _) _ [0] rfl (src_sl Tryz.und8 (new1 0)) (by rw [HL.out]; simp <;> omega) (by have := HR.out.2.size; simp <;> omega) ?_; intro v2 w2 hr2 hg2; have hB2 := hg2.below (HR.out.1.alloc _) (by have := HR.out.2.size; simp <;> omega); have HR2' : Hid (Row .u8 5 w.heap.size w2 v2 (X ++ 128 :: List.replicate z 0 ++ [0]) ∧ Below w.heap.size w w2) := ⟨hr2, (al2 HR.out.2).trans hB2⟩; clear hr2 hg2 hB2)
      go_roundw
      case rel =>
        refine ⟨z + 1, by omega, ?_, HR2'.out.2⟩
        have := HR2'.out.1
        rw [List.append_assoc, List.cons_append, ← List.replicate_succ'] at this; exact this
      case measure =>
        obtain ⟨a2, c2, h2⟩ := HR2'.out.1.ne
        rw [h2]
        have := HL.out
        have := HL2.out
        have := HX.out.2
        simp [lenOf] at *
        omega
    · obtain rfl : z = Z := by omega
      have he : ((L : Int) + 8) % 64 = 0 := by have := hzz.2 rfl; rw [← this, HL2.out]; congr 1 <;> omega
      clear hzz
      have HG : Hid (X ++ 128 :: List.replicate z (0 : Int) ++ be 8 (N * 8) = X ++ fill N 64) := by rw [HF.out, List.append_assoc, List.cons_append]; rfl
      obtain ⟨Y, hY⟩ : ∃ Y, X ++ 128 :: List.replicate z (0 : Int) = Y := ⟨_, rfl⟩
      rw [hY] at HR HL HG
      clear hY
      go_wp2_with fail
      clear he
      go_loopw [6, 7] (fun mv iv wr => ∃ j : Nat, j ≤ 8 ∧ iv = .int .i64 (8 - 1 - (j : Int)) ∧ Row .u8 5 w.heap.size wr mv (Y ++ (be 8 (N * 8)).take j) ∧ Below w.heap.size w wr) (fun _ iv _ => (intOf iv + 1).toNat)
      case atStart => exact ⟨0, by omega, rfl, by simpa using HR.out.1, HR.out.2⟩
      case round =>
        obtain ⟨j, hj, rfl, hr, hBw⟩ := hrel
        obtain ⟨L2, hL'⟩ : ∃ l, (Y ++ (be 8 (N * 8)).take j).length = l := ⟨_, rfl⟩
        have hLs2 : L2 ≤ 33554432 := by rw [← hL', List.length_append, List.length_take, be_len]; have := HL.out; omega
        obtain ⟨av2, cv2, hv⟩ := hr.ne
        rw [hL'] at hv
        subst hv
        have HR3 : Hid (Row .u8 5 w.heap.size wr (.slice av2 L2 cv2) (Y ++ (be 8 (N * 8)).take j) ∧ Below w.heap.size w wr ∧ (Y ++ (be 8 (N * 8)).take j).length = L2) := ⟨hr, hBw, hL'⟩
        clear hr hBw hL'
        by_cases hjc : j < 8
        · obtain ⟨p, hp⟩ : ∃ p : Nat, 8 - 1 - j = p := ⟨_, rfl⟩
          have hpI : (8 : Int) - 1 - (j : Int) = (p : Int) := by omega
          have hp0 : (0 : Int) ≤ (p : Int) := by omega
          have HT : Hid ((be 8 (N * 8)).take (j + 1) = (be 8 (N * 8)).take j ++ [((N * 8 / 256 ^ p % 256 : Nat) : Int)]) := by rw [be_take 8 _ j hjc, hp]; rfl
          obtain ⟨sh, hsh⟩ : ∃ s : Nat, 8 * p = s := ⟨_, rfl⟩
          have hshI : (8 : Int) * (p : Int) = (sh : Int) := by omega
          have HSH := sh_byte N p sh hsh
          have HS2 : Hid ((8 * (N : Int)) / 2 ^ sh % 256 = ((N * 8 / 256 ^ p % 256 : Nat) : Int)) := HSH
          have hsb : sh ≤ 127 := by omega
          have hp' : p < 8 := by omega
          have HP : Hid (8 - 1 - j = p) := hp
          have HSZ : Hid (8 ≤ p → (0 : Int) = ((N * 8 / 256 ^ p % 256 : Nat) : Int)) := fun h8 => sh_zero N p hl h8
          clear hsh HSH hp
          rw [hpI]
          by_cases hp8 : p < 8
          · have hp8I : (p : Int) < 8 := by omega
            have hsb2 : sh ≤ 56 := by omega
            go_wp2_with (at_builtin; refine wpList_ap rfl (.tmp 42) (.tmp 44) 25 25 rfl .u8 5 1 Tryz.und8 Tryz.info8 (by decide) w.heap.size _ _ rfl (HR3.out.1.alloc _) _ [8 * (N : Int) / 2 ^ sh % 256] rfl (src_sl Tryz.und8 (new1 (8 * (N : Int) / 2 ^ sh % 256))) (by rw [HR3.out.2.2]; simp <;> omega) (by have := HR3.out.2.1.size; simp <;> omega) ?_; intro v4 w4 hr4 hg4; have hB4 := hg4.below (HR3.out.1.alloc _) (by have := HR3.out.2.1.size; simp <;> omega); have HR4 : Hid (Row .u8 5 w.heap.size w4 v4 (Y ++ (be 8 (N * 8)).take j ++ [8 * (N : Int) / 2 ^ sh % 256]) ∧ Below w.heap.size w w4) := ⟨hr4, (al2 HR3.out.2.1).trans hB4⟩; clear hr4 hg4 hB4)
            go_roundw
            case rel =>
              refine ⟨j + 1, by omega, by congr 1; have := HP.out; omega, ?_, HR4.out.2⟩
              have := HR4.out.1
              rw [HS2.out, List.append_assoc, ← HT.out] at this; exact this
            case measure => simp [intOf] <;> omega
          · exfalso; omega
        · obtain rfl : j = 8 := by omega
          have HN : Hid (Row .u8 5 w.heap.size wr (.slice av2 L2 cv2) (X ++ fill N 64) ∧ Below w.heap.size w wr) := by
            have := HR3.out.1
            rw [List.take_of_length_le (by rw [be_len]; omega), HG.out] at this
            exact ⟨this, HR3.out.2.1⟩
          clear HR3
          go_wp2
          go_ret
          exact ⟨_, rfl, HN.out⟩

set_option maxHeartbeats 2000000 in
theorem filled_128 {w : World} (v : Value) (X : List Int) (hX : Sl .u8 w v X) (hl : X.length ≤ 16777216) :
    Calls Tryz.prog 56 #[v, .int .i64 128] w fun e w' => ∃ r, e = .returned r ∧ Row .u8 5 w.heap.size w' r (X ++ fill X.length 128) ∧ Below w.heap.size w w' := by
  obtain ⟨a, cp, rfl, hcp⟩ : ∃ a c, v = .slice a X.length c ∧ X.length ≤ c := by obtain ⟨a, c, h, h', _⟩ := hX; exact ⟨a, c, h, h'⟩
  obtain ⟨N, hN⟩ : ∃ n, X.length = n := ⟨_, rfl⟩
  have HX : Hid (Sl .u8 w (.slice a N cp) X ∧ X.length = N) := ⟨by rw [← hN]; exact hX, hN⟩
  rw [hN] at hl hcp
  simp only [hN]
  obtain ⟨Z, hZ⟩ : ∃ z, 128 - 1 - (N + 16) % 128 = z := ⟨_, rfl⟩
  have hmod := Nat.mod_lt (N + 16) (show 0 < 128 by decide)
  have HF : Hid (fill N 128 = 128 :: (List.replicate Z 0 ++ be 16 (N * 8))) := by
    show fill N 128 = _
    unfold fill fillLen
    rw [show 128 - (N + 128 / 8) % 128 + 128 / 8 - 1 - 128 / 8 = Z by omega]
  have HZ : Hid (∀ z, z ≤ Z → (((N : Int) + 1 + z + 16) % 128 = 0 ↔ z = Z)) := fun z hz => by omega
  have hZ2 : Z < 128 := by omega
  clear hX hN hZ hmod
  go_enter Tryz.func56, Tryz.ntmps56
  go_wp2_with (first
    | (at_builtin; replace hr1 := hr1; refine wpList_ap rfl (.tmp 13) (.tmp 14) 25 25 rfl .u8 5 1 Tryz.und8 Tryz.info8 (by decide) w.heap.size _ _ rfl (hr1.alloc _) _ [128] rfl (src_sl Tryz.und8 (new1 128)) (by have := HX.out.2; simp; omega) (by have := hB1.size; simp at this ⊢; omega) ?_; intro v2 w2 hr2 hg2; have hB2 := hg2.below (hr1.alloc _) (by have := hB1.size; simp at this ⊢; omega); have HR2 : Hid (Row .u8 5 w.heap.size w2 v2 (X ++ [128]) ∧ Below w.heap.size w w2) := ⟨hr2, (al2 hB1).trans hB2⟩; clear hr2 hg2 hB2 hr1 hB1)
    | (at_builtin; refine wpList_ap rfl (.tmp 11) (.tmp 12) 25 25 rfl .u8 5 1 Tryz.und8 Tryz.info8 (by decide) w.heap.size _ _ rfl row0 _ X rfl (src_sl Tryz.und8 (below_sl (al1 _) HX.out.1)) (by have := HX.out.2; simp; omega) (by simp) ?_; intro v1 w1 hr1 hg1; have hB1 : Below w.heap.size w w1 := (al1 _).trans (hg1.below row0 (by simp)); clear hg1))
  go_loopw [6] (fun mv wr => ∃ z : Nat, z ≤ Z ∧ Row .u8 5 w.heap.size wr mv (X ++ 128 :: List.replicate z 0) ∧ Below w.heap.size w wr) (fun mv _ => 128 + N + 1 - lenOf mv)
  case atStart => exact ⟨0, by omega, HR2.out⟩
  case round =>
    obtain ⟨z, hz, hr, hBw⟩ := hrel
    obtain ⟨L, hL⟩ : ∃ l, (X ++ 128 :: List.replicate z (0 : Int)).length = l := ⟨_, rfl⟩
    have hL2 : L = N + 1 + z := by rw [← hL]; have := HX.out.2; simp; omega
    obtain ⟨av, cv, hv⟩ := hr.ne
    rw [hL] at hv
    subst hv
    have HR : Hid (Row .u8 5 w.heap.size wr (.slice av L cv) (X ++ 128 :: List.replicate z 0) ∧ Below w.heap.size w wr) := ⟨hr, hBw⟩
    have HL : Hid ((X ++ 128 :: List.replicate z (0 : Int)).length = L) := hL
    have hLs : L ≤ 16778000 := by omega
    have HL2 : Hid (L = N + 1 + z) := hL2
    have hzz := HZ.out z hz
    clear hr hBw hL hL2
    by_cases hlt : z < Z
    · have hne : ¬ ((L : Int) + 16) % 128 = 0 := by intro h; have := hzz.1 (by rw [← h, HL2.out]; congr 1 <;> omega); omega
      clear hzz
      go_wp2_with (at_builtin; refine wpList_ap rfl (.tmp 23) (.tmp 24) 25 25 rfl .u8 5 1 Tryz.und8 Tryz.info8 (by decide) w.heap.size _ _ rfl (HR.out.1.alloc _) _ [0] rfl (src_sl Tryz.und8 (new1 0)) (by rw [HL.out]; simp <;> omega) (by have := HR.out.2.size; simp <;> omega) ?_; intro v2 w2 hr2 hg2; have hB2 := hg2.below (HR.out.1.alloc _) (by have := HR.out.2.size; simp <;> omega); have HR2' : Hid (Row .u8 5 w.heap.size w2 v2 (X ++ 128 :: List.replicate z 0 ++ [0]) ∧ Below w.heap.size w w2) := ⟨hr2, (al2 HR.out.2).trans hB2⟩; clear hr2 hg2 hB2)
      go_roundw
      case rel =>
        refine ⟨z + 1, by omega, ?_, HR2'.out.2⟩
        have := HR2'.out.1
        rw [List.append_assoc, List.cons_append, ← List.replicate_succ'] at this; exact this
      case measure =>
        obtain ⟨a2, c2, h2⟩ := HR2'.out.1.ne
        rw [h2]
        have := HL.out
        have := HL2.out
        have := HX.out.2
        simp [lenOf] at *
        omega
    · obtain rfl : z = Z := by omega
      have he : ((L : Int) + 16) % 128 = 0 := by have := hzz.2 rfl; rw [← this, HL2.out]; congr 1 <;> omega
      clear hzz
      have HG : Hid (X ++ 128 :: List.replicate z (0 : Int) ++ be 16 (N * 8) = X ++ fill N 128) := by rw [HF.out, List.append_assoc, List.cons_append]; rfl
      obtain ⟨Y, hY⟩ : ∃ Y, X ++ 128 :: List.replicate z (0 : Int) = Y := ⟨_, rfl⟩
      rw [hY] at HR HL HG
      clear hY
      go_wp2_with fail
      clear he
      go_loopw [6, 7] (fun mv iv wr => ∃ j : Nat, j ≤ 16 ∧ iv = .int .i64 (16 - 1 - (j : Int)) ∧ Row .u8 5 w.heap.size wr mv (Y ++ (be 16 (N * 8)).take j) ∧ Below w.heap.size w wr) (fun _ iv _ => (intOf iv + 1).toNat)
      case atStart => exact ⟨0, by omega, rfl, by simpa using HR.out.1, HR.out.2⟩
      case round =>
        obtain ⟨j, hj, rfl, hr, hBw⟩ := hrel
        obtain ⟨L2, hL'⟩ : ∃ l, (Y ++ (be 16 (N * 8)).take j).length = l := ⟨_, rfl⟩
        have hLs2 : L2 ≤ 33554432 := by rw [← hL', List.length_append, List.length_take, be_len]; have := HL.out; omega
        obtain ⟨av2, cv2, hv⟩ := hr.ne
        rw [hL'] at hv
        subst hv
        have HR3 : Hid (Row .u8 5 w.heap.size wr (.slice av2 L2 cv2) (Y ++ (be 16 (N * 8)).take j) ∧ Below w.heap.size w wr ∧ (Y ++ (be 16 (N * 8)).take j).length = L2) := ⟨hr, hBw, hL'⟩
        clear hr hBw hL'
        by_cases hjc : j < 16
        · obtain ⟨p, hp⟩ : ∃ p : Nat, 16 - 1 - j = p := ⟨_, rfl⟩
          have hpI : (16 : Int) - 1 - (j : Int) = (p : Int) := by omega
          have hp0 : (0 : Int) ≤ (p : Int) := by omega
          have HT : Hid ((be 16 (N * 8)).take (j + 1) = (be 16 (N * 8)).take j ++ [((N * 8 / 256 ^ p % 256 : Nat) : Int)]) := by rw [be_take 16 _ j hjc, hp]; rfl
          obtain ⟨sh, hsh⟩ : ∃ s : Nat, 8 * p = s := ⟨_, rfl⟩
          have hshI : (8 : Int) * (p : Int) = (sh : Int) := by omega
          have HSH := sh_byte N p sh hsh
          have HS2 : Hid ((8 * (N : Int)) / 2 ^ sh % 256 = ((N * 8 / 256 ^ p % 256 : Nat) : Int)) := HSH
          have hsb : sh ≤ 127 := by omega
          have hp' : p < 16 := by omega
          have HP : Hid (16 - 1 - j = p) := hp
          have HSZ : Hid (8 ≤ p → (0 : Int) = ((N * 8 / 256 ^ p % 256 : Nat) : Int)) := fun h8 => sh_zero N p hl h8
          clear hsh HSH hp
          rw [hpI]
          by_cases hp8 : p < 8
          · have hp8I : (p : Int) < 8 := by omega
            have hsb2 : sh ≤ 56 := by omega
            go_wp2_with (at_builtin; refine wpList_ap rfl (.tmp 42) (.tmp 44) 25 25 rfl .u8 5 1 Tryz.und8 Tryz.info8 (by decide) w.heap.size _ _ rfl (HR3.out.1.alloc _) _ [8 * (N : Int) / 2 ^ sh % 256] rfl (src_sl Tryz.und8 (new1 (8 * (N : Int) / 2 ^ sh % 256))) (by rw [HR3.out.2.2]; simp <;> omega) (by have := HR3.out.2.1.size; simp <;> omega) ?_; intro v4 w4 hr4 hg4; have hB4 := hg4.below (HR3.out.1.alloc _) (by have := HR3.out.2.1.size; simp <;> omega); have HR4 : Hid (Row .u8 5 w.heap.size w4 v4 (Y ++ (be 16 (N * 8)).take j ++ [8 * (N : Int) / 2 ^ sh % 256]) ∧ Below w.heap.size w w4) := ⟨hr4, (al2 HR3.out.2.1).trans hB4⟩; clear hr4 hg4 hB4)
            go_roundw
            case rel =>
              refine ⟨j + 1, by omega, by congr 1; have := HP.out; omega, ?_, HR4.out.2⟩
              have := HR4.out.1
              rw [HS2.out, List.append_assoc, ← HT.out] at this; exact this
            case measure => simp [intOf] <;> omega
          · have hp8I : ¬ (p : Int) < 8 := by omega
            have HS0 : Hid ((0 : Int) = ((N * 8 / 256 ^ p % 256 : Nat) : Int)) := HSZ.out (by omega)
            go_wp2_with (at_builtin; refine wpList_ap rfl (.tmp 42) (.tmp 44) 25 25 rfl .u8 5 1 Tryz.und8 Tryz.info8 (by decide) w.heap.size _ _ rfl (HR3.out.1.alloc _) _ [0] rfl (src_sl Tryz.und8 (new1 (0))) (by rw [HR3.out.2.2]; simp <;> omega) (by have := HR3.out.2.1.size; simp <;> omega) ?_; intro v4 w4 hr4 hg4; have hB4 := hg4.below (HR3.out.1.alloc _) (by have := HR3.out.2.1.size; simp <;> omega); have HR4 : Hid (Row .u8 5 w.heap.size w4 v4 (Y ++ (be 16 (N * 8)).take j ++ [0]) ∧ Below w.heap.size w w4) := ⟨hr4, (al2 HR3.out.2.1).trans hB4⟩; clear hr4 hg4 hB4)
            go_roundw
            case rel =>
              refine ⟨j + 1, by omega, by congr 1; have := HP.out; omega, ?_, HR4.out.2⟩
              have := HR4.out.1
              rw [HS0.out, List.append_assoc, ← HT.out] at this; exact this
            case measure => simp [intOf] <;> omega
        · obtain rfl : j = 16 := by omega
          have HN : Hid (Row .u8 5 w.heap.size wr (.slice av2 L2 cv2) (X ++ fill N 128) ∧ Below w.heap.size w wr) := by
            have := HR3.out.1
            rw [List.take_of_length_le (by rw [be_len]; omega), HG.out] at this
            exact ⟨this, HR3.out.2.1⟩
          clear HR3
          go_wp2
          go_ret
          exact ⟨_, rfl, HN.out⟩
end Go.Proofs.YtndoibmpnhkmpaaGreatDoor.Sh
/-
  Digest: the reference's Size, Block; LentBytes, KeptBytes; much.
-/
namespace Go.Proofs.YtndoibmpnhkmpaaGreatDoor.Sh
open Go.RowKit
set_option maxRecDepth 20000
theorem al2' {a w : World} {o : Obj} (h : Below a.heap.size a w) : Below a.heap.size a (w.alloc o) := h.alloc h.size o
theorem arr_nw {k : IntKind} {e : TypeId} {w : World} {b : Nat} {cs : Array Value} {xs : List Int} (hb : b = w.heap.size) (h : cs = (xs.map (Value.int k)).toArray) : Arr k e (w.alloc (.cells cs e)) b xs := by subst hb; subst h; exact Blk.new e w _
/-- A lent list: a block from B on that holds X, the two marks, and whatever else. -/
def LentR8 (B : Nat) (w : World) (v : Value) (X : List Int) : Prop :=
  ∃ b S, v = .slice (some ⟨b, 0, none⟩) X.length S.length ∧ B ≤ b ∧ Arr .u8 5 w b S ∧ S.take (X.length + 2) = X ++ [90, 165] ∧ X.length + 2 ≤ S.length ∧ S.length ≤ maxLen
theorem LentR8.sl {B : Nat} {w : World} {v : Value} {X : List Int} (h : LentR8 B w v X) : Sl .u8 w v X := by
  obtain ⟨b, S, rfl, _, hA, ht, hl, _⟩ := h
  refine ⟨_, _, rfl, by omega, .inr ⟨b, 0, rfl, hA.lt, ?_⟩⟩
  have h1 := hA.rd 0 X.length (by omega)
  have e : S.take X.length = X := by
    have : (S.take (X.length + 2)).take X.length = S.take X.length := by rw [List.take_take]; congr 1; omega
    rw [← this, ht, List.take_left]
  rw [List.drop_zero, e] at h1; exact h1
theorem LentR8.below {B : Nat} {w w' : World} {v : Value} {X : List Int} (h : LentR8 B w v X) (hb : Below w.heap.size w w') : LentR8 B w' v X := by
  obtain ⟨b, S, rfl, h1, hA, h2⟩ := h
  exact ⟨b, S, rfl, h1, below_arr hb hA.lt hA, h2⟩
theorem LentR8.mono {B B' : Nat} {w : World} {v : Value} {X : List Int} (h : LentR8 B w v X) (hb : B' ≤ B) : LentR8 B' w v X := by
  obtain ⟨b, S, rfl, h1, h2⟩ := h
  exact ⟨b, S, rfl, by omega, h2⟩

set_option maxHeartbeats 1000000 in
theorem Lent8_any (X : List Int) (v : Value) (w : World) (hX : Sl .u8 w v X) (hl : X.length * 1 ≤ 140737488351232) :
    Calls Tryz.prog 10 #[v] w fun e w' => ∃ r, e = .returned r ∧ LentR8 w.heap.size w' r X ∧ Below w.heap.size w w' := by
  obtain ⟨a, c, hv, hc⟩ : ∃ a c, v = .slice a X.length c ∧ X.length ≤ c := by obtain ⟨a, c, h, h', _⟩ := hX; exact ⟨a, c, h, h'⟩
  subst hv
  go_enter Tryz.func10, Tryz.ntmps10
  go_wp2_with (first
    | (at_builtin; replace hr1 := hr1; refine wpList_ap rfl (.tmp 6) (.tmp 7) 25 25 rfl .u8 5 1 Tryz.und8 Tryz.info8 (by decide) w.heap.size _ X rfl (hr1.alloc _) _ [90, 165] rfl (src_sl Tryz.und8 (Arr.sl (S := [90, 165]) (arr_nw rfl rfl))) (by simp; omega) (by have := hB1.size; simp at this ⊢; omega) ?_; intro v2 w2 hr2 hg2; have hB2 := hg2.below (hr1.alloc _) (by have := hB1.size; simp at this ⊢; omega); obtain ⟨b2, S2, hv2, hb2, hA2, hl2, ht2, hm2⟩ := hr2.open (X.length + 2) (by simp) (by omega); subst hv2; clear hr2 hg2)
    | (at_builtin; refine wpList_ap rfl (.tmp 4) (.tmp 5) 25 25 rfl .u8 5 1 Tryz.und8 Tryz.info8 (by decide) w.heap.size _ [] rfl (Row.arr (S := []) (arr_nw rfl rfl) (Nat.le_refl _) (by decide)) _ X rfl (src_sl Tryz.und8 (below_sl (al1 _) hX)) (by simp; omega) (by simp) ?_; intro v1 w1 hr1 hg1; have hB1 := hg1.below (Row.arr (B := w.heap.size) (S := []) (arr_nw rfl rfl) (Nat.le_refl _) (by decide)) (by simp)))
  go_ret
  have hb1 : Below w.heap.size w w1 := (al2' (Below.refl _ _)).trans hB1
  have hb' : Below w.heap.size w w2 := (al2' hb1).trans hB2
  exact ⟨_, rfl, ⟨b2, S2, rfl, hb2, hA2, by simpa using ht2, hl2, hm2⟩, hb'⟩

set_option maxHeartbeats 1000000 in
theorem Kept8_any {B : Nat} {w : World} (v u : Value) (X : List Int) (hv : LentR8 B w v X) (hu : Sl .u8 w u X) (hl : X.length ≤ 140737488351232) :
    Calls Tryz.prog 16 #[v, u] w fun e w' => e = .returned (.bool true) ∧ Below w.heap.size w w' := by
  have hs := hv.sl
  obtain ⟨b, S, rfl, hb, hA, ht, hle, hm⟩ := hv
  obtain ⟨a', c', hu', _⟩ : ∃ a c, u = .slice a X.length c ∧ X.length ≤ c := by obtain ⟨a, c, h, h', _⟩ := hu; exact ⟨a, c, h, h'⟩
  subst hu'
  have e1 : S.getD X.length 0 = 90 := by
    have : (S.take (X.length + 2)).getD X.length 0 = S.getD X.length 0 := by simp [List.getD]
    rw [← this, ht]; simp [List.getD]
  have e2 : S.getD (X.length + 1) 0 = 165 := by
    have : (S.take (X.length + 2)).getD (X.length + 1) 0 = S.getD (X.length + 1) 0 := by simp [List.getD]
    rw [← this, ht]; simp [List.getD]
  have hc1 := hA.cell X.length (by omega)
  have hc2 := hA.cell (X.length + 1) (by omega)
  rw [e1] at hc1; rw [e2] at hc2
  clear e1 e2 ht
  have hmm : (S.length : Int) ≤ 9223372036854775807 := by unfold maxLen at hm; omega
  have hlt := hA.lt
  go_enter Tryz.func16, Tryz.ntmps16
  go_wp2_with (first
    | (go_at_call 14; refine (SameBytes_any _ _ X hs hu (by omega)).mono ?_; rintro e w' ⟨rfl, hB⟩; rw [← hB.cell (p := ⟨b, X.length, none⟩) hlt] at hc1; rw [← hB.cell (p := ⟨b, X.length + 1, none⟩) hlt] at hc2))
  go_ret
  exact ⟨rfl, hB⟩

theorem Tryz.one_int : (Tryz.prog.info? 3).map (·.size) = some 1 := by kernel_rfl
theorem RSize_any {w : World} (alg : Int) : Calls Tryz.prog 22 #[.int .i64 alg] w fun e w' => e = .returned (.int .i64 (siz alg)) ∧ w = w' := by
  unfold siz
  by_cases h1 : alg = 1
  · subst h1
    have hx : ∀ w' : World, Sem.run Tryz.prog (Instr.index 76 (.agg #[.int .i64 20, .int .i64 32, .int .i64 48, .int .i64 64]) (.int .i64 0)) w' = .ok (.int .i64 20) w' := fun w' => run_index_row w' _ _ 4 .i64 [20, 32, 48, 64] 0 Tryz.underlying76 Tryz.underlying3 Tryz.one_int rfl (by decide)
    go_enter Tryz.func22, Tryz.ntmps22; go_wp2; go_ret; exact ⟨rfl, rfl⟩
  by_cases h2 : alg = 2
  · subst h2
    have hx : ∀ w' : World, Sem.run Tryz.prog (Instr.index 76 (.agg #[.int .i64 20, .int .i64 32, .int .i64 48, .int .i64 64]) (.int .i64 1)) w' = .ok (.int .i64 32) w' := fun w' => run_index_row w' _ _ 4 .i64 [20, 32, 48, 64] 1 Tryz.underlying76 Tryz.underlying3 Tryz.one_int rfl (by decide)
    go_enter Tryz.func22, Tryz.ntmps22; go_wp2; go_ret; exact ⟨rfl, rfl⟩
  by_cases h3 : alg = 3
  · subst h3
    have hx : ∀ w' : World, Sem.run Tryz.prog (Instr.index 76 (.agg #[.int .i64 20, .int .i64 32, .int .i64 48, .int .i64 64]) (.int .i64 2)) w' = .ok (.int .i64 48) w' := fun w' => run_index_row w' _ _ 4 .i64 [20, 32, 48, 64] 2 Tryz.underlying76 Tryz.underlying3 Tryz.one_int rfl (by decide)
    go_enter Tryz.func22, Tryz.ntmps22; go_wp2; go_ret; exact ⟨rfl, rfl⟩
  by_cases h4 : alg = 4
  · subst h4
    have hx : ∀ w' : World, Sem.run Tryz.prog (Instr.index 76 (.agg #[.int .i64 20, .int .i64 32, .int .i64 48, .int .i64 64]) (.int .i64 3)) w' = .ok (.int .i64 64) w' := fun w' => run_index_row w' _ _ 4 .i64 [20, 32, 48, 64] 3 Tryz.underlying76 Tryz.underlying3 Tryz.one_int rfl (by decide)
    go_enter Tryz.func22, Tryz.ntmps22; go_wp2; go_ret; exact ⟨rfl, rfl⟩
  rw [if_neg h1, if_neg h2, if_neg h3, if_neg h4]
  by_cases h5 : alg < 1
  · go_enter Tryz.func22, Tryz.ntmps22; go_wp2; go_ret; exact ⟨rfl, rfl⟩
  · have h6 : 4 < alg := by omega
    go_enter Tryz.func22, Tryz.ntmps22; go_wp2; go_ret; exact ⟨rfl, rfl⟩

/-- A slice of slices of bytes, as an argument has it. -/
structure Lists (w : World) (a : Option Addr) (n c : Nat) (vs : List Value) (ms : List (List Int)) : Prop where
  sls : SlS w (.slice a n c) vs
  msgs : Msgs w vs ms
  len : ms.length = n
theorem Lists.at {w : World} {a : Option Addr} {n c : Nat} {vs : List Value} {ms : List (List Int)} (h : Lists w a n c vs ms) (i : Nat) (hi : i < n) :
    ∃ b off ai ni ci, a = some ⟨b, off, none⟩ ∧ b < w.heap.size ∧ vs.getD i undef = .slice ai ni ci ∧ w.cell? ⟨b, off + i, none⟩ = some (.slice ai ni ci) ∧ Sl .u8 w (.slice ai ni ci) (ms.getD i []) ∧ U8s (ms.getD i []) ∧ (ms.getD i []).length = ni := by
  have hv : vs.length = n := by rw [h.msgs.1, h.len]
  obtain ⟨a', c', hva, hc, hx⟩ := h.sls
  simp only [Value.slice.injEq] at hva
  obtain ⟨rfl, _, rfl⟩ := hva
  rcases hx with hx | ⟨b, off, rfl, hb, hcell⟩
  · rw [hx] at hv; simp at hv; omega
  · have h1 := (h.msgs.2 i (by omega))
    obtain ⟨ai, ci, hvi, hci, hxi⟩ := h1.1
    refine ⟨b, off, ai, _, ci, rfl, hb, hvi, ?_, ?_, h1.2, rfl⟩
    · rw [hcell i (by omega), hvi]
    · rw [← hvi]; exact h1.1
end Go.Proofs.YtndoibmpnhkmpaaGreatDoor.Sh
/-
  Digest: what the reference's Digest must do (G41's word alone, for seats without digest's laws).
-/
namespace Go.Proofs.YtndoibmpnhkmpaaGreatDoor.Sh
open Go.RowKit
set_option maxRecDepth 20000
def DigestC : Prop := ∀ (alg : Int) (_ : Alg alg) (w : World) (v : Value) (X : List Int), Sl .u8 w v X → U8s X → X.length ≤ 65536 →
  Calls Tryz.prog 24 #[.int .i64 alg, v] w fun e w' => ∃ r, e = .returned r ∧ Sl .u8 w' r (dig alg X) ∧ Below w.heap.size w w'
end Go.Proofs.YtndoibmpnhkmpaaGreatDoor.Sh
