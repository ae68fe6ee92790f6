/-
  Contracts of the library, laid at this program.
-/
import Derived.Shelf.Small.Utf8
import Derived.Shelf.Small.Strs
import Derived.Shelf.Strings.Search1
import Derived.Shelf.Sort.Plain
import Derived.Shelf.Strings.Runes
import Derived.Shelf.Unicode.DecodeSlow
import Derived.Shelf.Slices.CompactS
import Derived.Test.YtkjdihikcgpabaaDoorProg
import Derived.Test.YtkjdihikcgpabaaDoorK9
namespace Go.Proofs
open Go.Shelf
def Tryd.lays190_ren : Go.Shelf.Ren := ⟨fun | 190 => 33 | 125 => 38 | 258 => 37 | 128 => 49 | 129 => 50 | 302 => 40 | 303 => 41 | 304 => 42 | 305 => 43 | 306 => 44 | 307 => 45 | 308 => 46 | 309 => 47 | 310 => 48 | 333 => 55 | 329 => 56 | 330 => 57 | 334 => 58 | 335 => 59 | 336 => 60 | 344 => 64 | n => n, fun | 31 => 23 | 9 => 9 | 3 => 3 | 46 => 82 | 0 => 0 | 51 => 94 | 53 => 96 | 4 => 4 | 183 => 86 | 182 => 85 | 131 => 91 | 5 => 5 | 218 => 107 | 222 => 111 | 228 => 116 | 229 => 117 | n => n, fun | n => n⟩
theorem Tryd.lays190 : Go.Proofs.Lays.n190 Tryd.prog Tryd.lays190_ren := {
  mixed := by kernel_rfl
  f125 := Tryd.func38.trans (congrArg some (by kernel_rfl))
  f128 := Tryd.func49.trans (congrArg some (by kernel_rfl))
  f129 := Tryd.func50.trans (congrArg some (by kernel_rfl))
  f190 := Tryd.func33.trans (congrArg some (by kernel_rfl))
  f258 := Tryd.func37.trans (congrArg some (by kernel_rfl))
  f302 := Tryd.func40.trans (congrArg some (by kernel_rfl))
  f303 := Tryd.func41.trans (congrArg some (by kernel_rfl))
  f304 := Tryd.func42.trans (congrArg some (by kernel_rfl))
  f305 := Tryd.func43.trans (congrArg some (by kernel_rfl))
  f306 := Tryd.func44.trans (congrArg some (by kernel_rfl))
  f307 := Tryd.func45.trans (congrArg some (by kernel_rfl))
  f308 := Tryd.func46.trans (congrArg some (by kernel_rfl))
  f309 := Tryd.func47.trans (congrArg some (by kernel_rfl))
  f310 := Tryd.func48.trans (congrArg some (by kernel_rfl))
  f329 := Tryd.func56.trans (congrArg some (by kernel_rfl))
  f330 := Tryd.func57.trans (congrArg some (by kernel_rfl))
  f333 := Tryd.func55.trans (congrArg some (by kernel_rfl))
  f334 := Tryd.func58.trans (congrArg some (by kernel_rfl))
  f335 := Tryd.func59.trans (congrArg some (by kernel_rfl))
  f336 := Tryd.func60.trans (congrArg some (by kernel_rfl))
  f344 := Tryd.func64.trans (congrArg some (by kernel_rfl))
  t0 := Tryd.underlying0
  a0 := Tryd.isAgg0
  z0 := Tryd.sizeOf0
  v0 := Tryd.zeroValue0
  t3 := Tryd.underlying3
  a3 := Tryd.isAgg3
  z3 := Tryd.sizeOf3
  v3 := Tryd.zeroValue3
  t4 := Tryd.underlying4
  a4 := Tryd.isAgg4
  z4 := Tryd.sizeOf4
  v4 := Tryd.zeroValue4
  t5 := Tryd.underlying5
  a5 := Tryd.isAgg5
  z5 := Tryd.sizeOf5
  v5 := Tryd.zeroValue5
  t9 := Tryd.underlying9
  a9 := Tryd.isAgg9
  z9 := Tryd.sizeOf9
  v9 := Tryd.zeroValue9
  t31 := Tryd.underlying23
  a31 := Tryd.isAgg23
  z31 := Tryd.sizeOf23
  v31 := Tryd.zeroValue23
  t46 := Tryd.underlying82
  a46 := Tryd.isAgg82
  z46 := Tryd.sizeOf82
  v46 := Tryd.zeroValue82
  t51 := Tryd.underlying94
  a51 := Tryd.isAgg94
  z51 := Tryd.sizeOf94
  v51 := Tryd.zeroValue94
  t53 := Tryd.underlying96
  a53 := Tryd.isAgg96
  z53 := Tryd.sizeOf96
  v53 := Tryd.zeroValue96
  t131 := Tryd.underlying91
  a131 := Tryd.isAgg91
  z131 := Tryd.sizeOf91
  v131 := Tryd.zeroValue91
  t182 := Tryd.underlying85
  a182 := Tryd.isAgg85
  z182 := Tryd.sizeOf85
  v182 := Tryd.zeroValue85
  t183 := Tryd.underlying86
  a183 := Tryd.isAgg86
  z183 := Tryd.sizeOf86
  v183 := Tryd.zeroValue86
  t218 := Tryd.underlying107
  a218 := Tryd.isAgg107
  z218 := Tryd.sizeOf107
  v218 := Tryd.zeroValue107
  t222 := Tryd.underlying111
  a222 := Tryd.isAgg111
  z222 := Tryd.sizeOf111
  v222 := Tryd.zeroValue111
  t228 := Tryd.underlying116
  a228 := Tryd.isAgg116
  z228 := Tryd.sizeOf116
  v228 := Tryd.zeroValue116
  t229 := Tryd.underlying117
  a229 := Tryd.isAgg117
  z229 := Tryd.sizeOf117
  v229 := Tryd.zeroValue117 }
open Go.Sort Go.RowKit in
theorem Tryd.slices_Sort_string (blk off cap : Nat) (ss : List (List UInt8)) (w : World) (hH : Holds encStr w blk off ss.toArray) (hblk : blk < w.heap.size) (hsz : ss.length < 4611686018427387904) :
    Calls Tryd.prog 33 #[.slice (some ⟨blk, off, none⟩) ss.length cap] w fun e w' =>
      e = .returned (.tuple #[]) ∧ ∃ n os, w' = grow (putRow encStr (Sort.ahead w n) blk off (ss.mergeSort fun x y => decide (x ≤ y)).toArray) os := Any.slices_Sort_string Tryd.lays190 blk off cap ss w hH hblk hsz
def Tryd.lays194_ren : Go.Shelf.Ren := ⟨fun | 194 => 34 | n => n, fun | 31 => 23 | 9 => 9 | 3 => 3 | 4 => 4 | 0 => 0 | n => n, fun | n => n⟩
theorem Tryd.lays194 : Go.Proofs.Lays.n194 Tryd.prog Tryd.lays194_ren := {
  mixed := by kernel_rfl
  f194 := Tryd.func34.trans (congrArg some (by kernel_rfl))
  t0 := Tryd.underlying0
  a0 := Tryd.isAgg0
  z0 := Tryd.sizeOf0
  v0 := Tryd.zeroValue0
  t3 := Tryd.underlying3
  a3 := Tryd.isAgg3
  z3 := Tryd.sizeOf3
  v3 := Tryd.zeroValue3
  t4 := Tryd.underlying4
  a4 := Tryd.isAgg4
  z4 := Tryd.sizeOf4
  v4 := Tryd.zeroValue4
  t9 := Tryd.underlying9
  a9 := Tryd.isAgg9
  z9 := Tryd.sizeOf9
  v9 := Tryd.zeroValue9
  t31 := Tryd.underlying23
  a31 := Tryd.isAgg23
  z31 := Tryd.sizeOf23
  v31 := Tryd.zeroValue23 }
open Go.RowKit Go.Lib Go.Sort in
/-- slices.Compact at []string: "Compact replaces consecutive runs of equal elements with a single copy. This is like the uniq command found on Unix. Compact modifies the contents of the slice s and returns the modified slice, which may have a smaller length. Compact zeroes the elements between the new length and the original length. The result preserves the nilness of s.": IT RETURNS THE SLICE CUT TO 'Lib.compact zs'; ITS CELLS HOLD 'Lib.compact zs', THEN ZERO VALUES up to the old length; all else is as it was, but for the count of draws. IN THE WORDS OF slices.Sort's CONTRACT ('Holds', 'putRow'): so the everyday 'slices.Sort(xs); xs = slices.Compact(xs)' goes from the one contract to the other. It asks 'zs.length ≤ cap' (every slice's: the reslicing 's[:k]' looks at it). Length 0, nil: '.._empty'. (LAID: no walk: one application.) -/
theorem Tryd.slices_Compact_string (blk off cap : Nat) (zs : List (List UInt8)) (w : World) (hH : Holds encStr w blk off zs.toArray) (hsz : zs.length ≤ 9223372036854775807) (hcap : zs.length ≤ cap) :
    Calls Tryd.prog 34 #[.slice (some ⟨blk, off, none⟩) zs.length cap] w fun e w' => e = .returned (.slice (some ⟨blk, off, none⟩) (Lib.compact zs).length cap) ∧ ∃ q, w' = putRow encStr (Sort.ahead w q) blk off (Lib.compact zs ++ List.replicate (zs.length - (Lib.compact zs).length) []).toArray := Any.slices_Compact_string Tryd.lays194 blk off cap zs w hH hsz hcap
open Go.RowKit Go.Lib Go.Sort in
/-- The same at a slice of length 0, a nil one too: it comes back as it is. (LAID: no walk: one application.) -/
theorem Tryd.slices_Compact_string_empty (a : Option Addr) (cap : Nat) (w : World) :
    Calls Tryd.prog 34 #[.slice a 0 cap] w fun e w' => e = .returned (.slice a 0 cap) ∧ w' = w := Any.slices_Compact_string_empty Tryd.lays194 a cap w
end Go.Proofs
/-
  Policy: a set of texts in memory; what is in it; sorted.
-/
namespace Go.Proofs.YtkjdihikcgpabaaDoor
open Go.RowKit Go.Sort Go.Lib
theorem Tryd.undX : Tryd.prog.underlying 23 = some (.slice 9) := by kernel_rfl
theorem Tryd.infoX : (Tryd.prog.info? 9).map (fun i => (i.zero, i.size, i.bytes)) = some (some (.string ⟨#[]⟩), 1, 16) := by kernel_rfl
theorem Tryd.undM : Tryd.prog.underlying 69 = some (.map 9 75) := by kernel_rfl
theorem Tryd.undStr : Tryd.prog.underlying 9 = some .string := by kernel_rfl
theorem lawK : Go.Maps.Keyed Tryd.prog 9 := Go.Maps.string_keyed Tryd.undStr
theorem zeroU (w : World) : (zeroValue 75).run Tryd.prog w = .ok (.agg #[]) w := by kernel_rfl
theorem run_mkm (k : IntKind) (n : Int) (w : World) : (Instr.makeMap 69 (some (.int k n))).run Tryd.prog w = .ok (.map (some w.heap.size)) (w.alloc (.map #[] 0)) := by
  simp [Instr.makeMap, run_underlying Tryd.undM, asInt, asIntOf, Result.andThen]
theorem keyX {s : Tx} (h : s.length ≤ maxLen) : keyOf Tryd.prog 9 (encStr s) = some (.string s) := by
  have := WideMaps.keyOf_string_mk Tryd.undStr (s := ⟨s.toArray⟩) (by simpa [ByteArray.size] using h)
  simpa using this
theorem owns_below {H : Type} {k : TypeId} {R : Value → Option (DataW H × List MemPlace)} {b n : Nat} {D : DataW H} {w w' : World} (h : w.ownsMap Tryd.prog k R b n D) (hb : Below w.heap.size w w') : w'.ownsMap Tryd.prog k R b n D := by
  obtain ⟨es, clock, h1, h2⟩ := h
  have hlt : b < w.heap.size := (Array.getElem?_eq_some_iff.1 h1).1
  exact ⟨es, clock, (hb.block b hlt).trans h1, h2⟩
/-- The map in block b is the set of the texts of L. -/
def SetM (w : World) (b : Nat) (n : Nat) (L : List Tx) : Prop := w.ownsMap (H := Unit) Tryd.prog 9 unitElem b n (setD L)
set_option maxHeartbeats 4000000 in
theorem setOf_any {w : World} (v : Value) (L : List Tx) (hv : TxS w v L) (hL : L.length ≤ 1048576) :
    Calls Tryd.prog 26 #[v] w fun e w' => e = .returned (.map (some w.heap.size)) ∧ SetM w' w.heap.size L.length L ∧ Below w.heap.size w w' := by
  obtain ⟨n, hn⟩ : ∃ n, L.length = n := ⟨_, rfl⟩
  obtain ⟨a, c, rfl, hc⟩ := hv.form
  rw [hn] at hv hL hc ⊢
  have HX : Hid (TxS w (.slice a n c) L) := hv
  have hmm := run_mkm
  clear hv
  go_enter Tryd.func26, Tryd.ntmps26
  go_wp2
  go_loopw [11] (fun iv wr => ∃ i : Nat, iv = .int .i64 (i : Int) ∧ i ≤ n ∧ SetM wr w.heap.size i (L.take i) ∧ Below w.heap.size w wr) (fun iv _ => n - (intOf iv).toNat)
  case atStart => exact ⟨0, rfl, Nat.zero_le _, World.ownsMap_made _ _ _ _, (Below.refl _ _).alloc (Nat.le_refl _) _⟩
  case round =>
    obtain ⟨i, rfl, hi, hS, hbl⟩ := hrel
    by_cases hlt : i < n
    · have hltI : (i : Int) < (n : Int) := by omega
      obtain ⟨b, off, rfl, q0, hsl⟩ := (HX.out.below hbl).at (by omega : i < L.length)
      obtain ⟨s, hs⟩ : ∃ s, L[i]'(by omega) = s := ⟨_, rfl⟩
      rw [hs] at q0 hsl
      have HS : Hid (SetM wr w.heap.size i (L.take i) ∧ Below w.heap.size w wr) := ⟨hS, hbl⟩
      have HT : Hid (L.take (i + 1) = L.take i ++ [s]) := by rw [List.take_succ_eq_append_getElem (by omega), hs]; exact rfl
      clear hS hbl hs
      go_wp2_with (first
        | (at_mapUpdate; refine wpList_mapUpdate_own _ rfl _ _ _ 69 rfl 9 75 lawK Tryd.undM (unitElem (H := Unit)) w.heap.size i (setD (L.take i)) rfl HS.out.1 (by unfold maxLen; omega) _ _ _ rfl rfl (keyX hsl) _ [] unitElem_mk ?_; intro w1 hown1 hgrow1)
        | go_in)
      go_roundw
      case rel => exact ⟨i + 1, by go_num, by omega, by unfold SetM; rw [HT.out, setD_snoc]; exact hown1, HS.out.2.grown hgrow1 HS.out.2.size (fun j hj => by cases hj; exact Nat.le_refl _)⟩
      case measure => simp [intOf]; omega
    · obtain rfl : i = n := by omega
      go_wp2
      go_ret
      exact ⟨rfl, by rw [List.take_of_length_le (Nat.le_of_eq hn)] at hS; exact hS, hbl⟩
set_option maxHeartbeats 4000000 in
theorem has_any {w : World} (b n : Nat) (L : List Tx) (s : Tx) (hS : SetM w b n L) (hs : s.length ≤ maxLen) :
    Calls Tryd.prog 27 #[.map (some b), encStr s] w fun e w' => e = .returned (.bool (decide (s ∈ L))) ∧ Below w.heap.size w w' := by
  have HS : Hid (SetM w b n L) := hS
  clear hS
  go_enter Tryd.func27, Tryd.ntmps27
  go_wp2_with (first
    | (at_lookup; refine wpList_lookup_own_unit _ rfl _ _ 69 rfl 9 75 lawK Tryd.undM (zeroU _) b n (setD L) rfl HS.out _ _ rfl (keyX hs) ?_; rw [has_setD])
    | go_in)
  go_ret
  exact ⟨rfl, (Below.refl _ _).alloc (Nat.le_refl _) _⟩
end Go.Proofs.YtkjdihikcgpabaaDoor
/-
  Policy: sorted.
-/
namespace Go.Proofs.YtkjdihikcgpabaaDoor
open Go.RowKit Go.Sort Go.Lib
theorem Sort_any {w : World} (b n : Nat) (L : List Tx) (hn : L.length = n) (hn2 : n ≤ 1048576) (hA : Blk 9 w b (L.map encStr)) :
    Calls Tryd.prog 33 #[.slice (some ⟨b, 0, none⟩) n n] w fun e w' => e = .returned (.tuple #[]) ∧ Blk 9 w' b ((L.mergeSort fun x y => decide (x ≤ y)).map encStr) ∧ Upd w w' b := by
  subst hn
  refine (Tryd.slices_Sort_string b 0 _ L w (holds_tx hA (by rw [List.take_of_length_le (by simp)])) hA.lt (by omega)).mono ?_
  rintro e w3 ⟨rfl, m, os, rfl⟩
  refine ⟨rfl, ?_, upd_putRow _ m os⟩
  have := blk_grow (blk_putRow hA (L.mergeSort fun x y => decide (x ≤ y)) (by simp) m) os
  rw [ms_len, List.drop_of_length_le (by simp), List.append_nil] at this
  exact this
theorem Compact_any {w : World} (b n : Nat) (M : List Tx) (hn : M.length = n) (hn2 : n ≤ 1048576) (hs : ∀ s ∈ M, s.length ≤ maxLen) (hA : Blk 9 w b (M.map encStr)) :
    Calls Tryd.prog 34 #[.slice (some ⟨b, 0, none⟩) n n] w fun e w' => ∃ r, e = .returned r ∧ TxS w' r (compact M) ∧ Upd w w' b := by
  subst hn
  have hcl : (compact M).length ≤ M.length := by
    have : (compact M).length ≤ (List.range M.length).length := by
      unfold compact compactUpTo
      rw [List.length_map]
      exact List.length_filter_le _ _
    simpa using this
  have hcs : ∀ s ∈ compact M, s.length ≤ maxLen := by
    intro s h
    unfold compact compactUpTo at h
    obtain ⟨j, hj, rfl⟩ := List.mem_map.1 h
    have hj2 : j < M.length := by have := (List.mem_filter.1 hj).1; simpa using this
    have : M.toArray[j]! = M[j] := by simp [getElem!_pos, hj2]
    rw [this]
    exact hs _ (List.getElem_mem _)
  refine (Tryd.slices_Compact_string b 0 _ M w (holds_tx hA (by rw [List.take_of_length_le (by simp)])) (by omega) (Nat.le_refl _)).mono ?_
  rintro e w3 ⟨rfl, m, rfl⟩
  have h1 := blk_putRow hA (compact M ++ List.replicate (M.length - (compact M).length) []) (by simp; omega) m
  refine ⟨_, rfl, TxS.ofBlk h1 _ _ rfl hcl (by simp) hcs, ?_⟩
  have h2 := upd_putRow (w := w) (b := b) (compact M ++ List.replicate (M.length - (compact M).length) []).toArray m #[]
  rw [grow_empty] at h2
  exact h2
end Go.Proofs.YtkjdihikcgpabaaDoor
/-
  Policy: sorted, walked.
-/
namespace Go.Proofs.YtkjdihikcgpabaaDoor
open Go.RowKit Go.Sort Go.Lib
theorem szX : (Tryd.prog.info? 9).map (·.size) = some 1 := by kernel_rfl
set_option maxRecDepth 20000 in
set_option maxHeartbeats 4000000 in
theorem sorted_any {w : World} (v : Value) (L : List Tx) (hv : TxS w v L) (hL : L.length ≤ 1048576) :
    Calls Tryd.prog 28 #[v] w fun e w' => ∃ r, e = .returned r ∧ TxS w' r (srt L) ∧ Below w.heap.size w w' := by
  obtain ⟨n, hn⟩ : ∃ n, L.length = n := ⟨_, rfl⟩
  obtain ⟨B, hB⟩ : ∃ B, w.heap.size = B := ⟨_, rfl⟩
  obtain ⟨a, c, rfl, hc⟩ := hv.form
  rw [hn] at hv hL hc ⊢
  have HX : Hid (TxS w (.slice a n c) L ∧ L.length = n ∧ w.heap.size = B) := ⟨hv, hn, hB⟩
  have HS : Hid (∀ w2 : World, Blk 9 w2 B (L.map encStr) → Calls Tryd.prog 33 #[.slice (some ⟨B, 0, none⟩) n n] w2 fun e w' => e = .returned (.tuple #[]) ∧ Blk 9 w' B ((L.mergeSort fun x y => decide (x ≤ y)).map encStr) ∧ Upd w2 w' B) := fun w2 h => Sort_any B n L hn hL h
  have HC : Hid (∀ w2 : World, Blk 9 w2 B ((L.mergeSort fun x y => decide (x ≤ y)).map encStr) → Calls Tryd.prog 34 #[.slice (some ⟨B, 0, none⟩) n n] w2 fun e w' => ∃ r, e = .returned r ∧ TxS w' r (srt L) ∧ Upd w2 w' B) := fun w2 h => Compact_any B n _ (by rw [ms_len, hn]) hL (fun s hs => hv.2 s ((ms_mem L s).1 hs)) h
  have HM : Hid (∀ w' : World, Blk 9 w' w.heap.size (List.replicate n (.string ⟨#[]⟩)) → Below w.heap.size w w' → Blk 9 w' B (List.replicate n (.string ⟨#[]⟩)) ∧ Below B w w') := fun w' h1 h2 => by rw [hB] at h1 h2; exact ⟨h1, h2⟩
  have HR : Hid (∀ w1 : World, Below B w w1 → Src Tryd.prog 1 23 (.slice a n c) n (L.map encStr) w1) := fun w1 h => by
    have := (hv.below (by rw [hB]; exact h)).src (t := 23) Tryd.undX
    rw [hn] at this
    exact this
  clear hv hn
  rw [hB]
  go_enter Tryd.func28, Tryd.ntmps28
  go_wp2_with (first
    | (at_make; refine wpList_mkV w rfl (.tmp 5) (.tmp 5) 23 rfl (.string ⟨#[]⟩) rfl 9 16 Tryd.undX Tryd.infoX n rfl rfl (by omega) (by omega) ?_; intro w1 hA1 hb1; rw [hB]; obtain ⟨hA1, hb1⟩ := HM.out w1 hA1 hb1)
    | (refine wpList_cpV rfl (.tmp 7) (.tmp 8) 23 rfl 9 Tryd.undX szX B n n 9 (List.replicate n (.string ⟨#[]⟩)) (L.map encStr) hA1 rfl (.slice a n c) rfl (HR.out w1 hb1) ⟨_, _, rfl⟩ (by simp) ?_; intro w2 hA2 hU2)
    | (go_at_call 33; refine (HS.out _ hA2).mono ?_; rintro e w3 ⟨rfl, hA3, hU3⟩)
    | (go_at_call 34; refine (HC.out _ hA3).mono ?_; rintro e w4 ⟨r, rfl, hr, hU4⟩)
    | go_in)
  go_ret
  have hsz : B ≤ w1.heap.size := by rw [← hB]; exact hb1.size
  exact ⟨_, rfl, hr, (((hb1.grown hU2 hsz (fun j hj => by cases hj; exact Nat.le_refl _)).grown hU3 (Nat.le_trans hsz hU2.size) (fun j hj => by cases hj; exact Nat.le_refl _)).grown hU4 (Nat.le_trans (Nat.le_trans hsz hU2.size) hU3.size) (fun j hj => by cases hj; exact Nat.le_refl _))⟩
end Go.Proofs.YtkjdihikcgpabaaDoor
/-
  Policy: what of a list is admitted.
-/
namespace Go.Proofs.YtkjdihikcgpabaaDoor
open Go.RowKit Go.Sort Go.Lib
theorem tx_beq (s t : Tx) : ((⟨s.toArray⟩ : ByteArray) == ⟨t.toArray⟩) = decide (s = t) := by
  by_cases h : s = t
  · subst h
    simp [MapKept.bytes_beq]
  · rw [decide_eq_false h]
    apply Bool.eq_false_iff.2
    intro he
    rw [MapKept.bytes_beq] at he
    simp at he
    exact h he
theorem src_oneP {w : World} {b : Nat} {x : Value} {T : TypeId} (hA : Blk T w b [x]) (ho : x.oneCell' = true) : Src Tryd.prog 1 23 (.slice (some ⟨b, 0, none⟩) 1 1) [x].length [x] w := by
  refine Src.ofSlice w Tryd.undX _ _ _ _ (by simp) (fun j u hj => ?_) (by simpa using ho)
  have hadd : (⟨b, 0, none⟩ : Addr).add j = ⟨b, j, none⟩ := by simp [Addr.add] <;> omega
  rw [hadd, hA.cell j, hj]
theorem blk_nwP {e : TypeId} {w : World} {b : Nat} {cs : Array Value} {xs : List Value} (hb : b = w.heap.size) (h : cs = xs.toArray) : Blk e (w.alloc (.cells cs e)) b xs := by subst hb; subst h; exact Blk.new e w _
set_option maxRecDepth 20000 in
set_option maxHeartbeats 4000000 in
theorem admitted_any {w : World} (b m : Nat) (S L : List Tx) (v : Value) (hS : SetM w b m S) (hv : TxS w v L) (hL : L.length ≤ 1048576) :
    Calls Tryd.prog 29 #[.map (some b), v] w fun e w' => ∃ r, e = .returned r ∧ VRow 9 w.heap.size w' r ((adm S L).map encStr) ∧ Below w.heap.size w w' := by
  obtain ⟨n, hn⟩ : ∃ n, L.length = n := ⟨_, rfl⟩
  obtain ⟨a, c, rfl, hc⟩ := hv.form
  rw [hn] at hv hL hc ⊢
  have HX : Hid (TxS w (.slice a n c) L ∧ L.length = n ∧ SetM w b m S) := ⟨hv, hn, hS⟩
  have HH : Hid (∀ (w1 : World) (s : Tx), Below w.heap.size w w1 → s.length ≤ maxLen → Calls Tryd.prog 27 #[.map (some b), encStr s] w1 fun e w' => e = .returned (.bool (decide (s ∈ S))) ∧ Below w1.heap.size w1 w') := fun w1 s h hs => has_any b m S s (owns_below hS h) hs
  clear hv hn hS
  go_enter Tryd.func29, Tryd.ntmps29
  go_wp2_with (first
    | (go_at_call 27; refine (HH.out _ anyP (Below.refl _ _) (by unfold anyP maxLen; decide)).mono ?_; rintro e w1 ⟨rfl, hb1⟩)
    | go_in)
  obtain ⟨all, hall⟩ : ∃ q, decide (anyP ∈ S) = q := ⟨_, rfl⟩
  rw [hall]
  have HA : Hid (decide (anyP ∈ S) = all ∧ Below w.heap.size w w1) := ⟨hall, hb1⟩
  clear hall hb1
  go_loopw [6, 13] (fun mv iv wr => ∃ i : Nat, iv = .int .i64 (i : Int) ∧ i ≤ n ∧ VRow 9 w.heap.size wr mv ((adm S (L.take i)).map encStr) ∧ Below w.heap.size w wr) (fun _ iv _ => n - (intOf iv).toNat)
  case atStart => exact ⟨0, rfl, Nat.zero_le _, VRow.nil _ _ _, HA.out.2⟩
  case round =>
    obtain ⟨i, rfl, hi, hR, hbl⟩ := hrel
    by_cases hlt : i < n
    · have hltI : (i : Int) < (n : Int) := by omega
      have hiL : i < L.length := by rw [HX.out.2.1]; exact hlt
      obtain ⟨b', off, rfl, q0, hsl⟩ := (HX.out.1.below hbl).at hiL
      obtain ⟨s, hs⟩ : ∃ s, L[i] = s := ⟨_, rfl⟩
      rw [hs] at q0 hsl
      have HT : Hid (adm S (L.take (i + 1)) = adm S (L.take i) ++ adm S [s]) := by rw [List.take_succ_eq_append_getElem hiL, adm_app, hs]; exact rfl
      have hal : (adm S (L.take i)).length ≤ 1048576 := by have := adm_len S (L.take i); rw [List.length_take] at this; omega
      have HS : Hid (VRow 9 w.heap.size wr u6 ((adm S (L.take i)).map encStr) ∧ Below w.heap.size w wr ∧ (adm S (L.take i)).length ≤ 1048576) := ⟨hR, hbl, hal⟩
      clear hR hbl hs hal
      by_cases h1 : s = [50, 46, 53, 46, 50, 57, 46, 51, 50, 46, 48]
      · have HN : Hid (adm S [s] = []) := by rw [h1]; simp [Hid, adm, anyP]
        go_wp2
        go_roundw
        case rel => exact ⟨i + 1, by go_num, by omega, by rw [HT.out, HN.out, List.append_nil]; exact HS.out.1, HS.out.2.1⟩
        case measure => simp [intOf]; omega
      · have h1b : (s == [50, 46, 53, 46, 50, 57, 46, 51, 50, 46, 48]) = false := by simpa using h1
        cases all with
        | true =>
          have HN : Hid (adm S [s] = [s]) := by have h := HA.out.1; unfold Hid adm; rw [h]; simp [anyP, h1]
          have HP : Hid (VRow 9 w.heap.size (wr.alloc (.cells #[encStr s] 9)) u6 ((adm S (L.take i)).map encStr) ∧ Below w.heap.size w (wr.alloc (.cells #[encStr s] 9)) ∧ w.heap.size ≤ (wr.alloc (.cells #[encStr s] 9)).heap.size) := ⟨HS.out.1.alloc _, HS.out.2.1.alloc HS.out.2.1.size _, (HS.out.2.1.alloc HS.out.2.1.size _).size⟩
          go_wp2_with (first
            | (at_builtin; refine wpList_apv rfl (.tmp 27) (.tmp 29) 23 23 rfl (.string ⟨#[]⟩) rfl 9 16 Tryd.undX Tryd.infoX (by decide) w.heap.size u6 ((adm S (L.take i)).map encStr) rfl HP.out.1 _ [encStr s] rfl (src_oneP (T := 9) (blk_nwP rfl rfl) rfl) (by have := HS.out.2.2; simp; omega) HP.out.2.2 ?_; intro v' w3 hV hG)
            | go_in)
          go_roundw
          case rel => exact ⟨i + 1, by go_num, by omega, by rw [HT.out, HN.out, List.map_append]; exact hV, (HP.out.2.1).trans (hG.below HP.out.1 HP.out.2.2)⟩
          case measure => simp [intOf]; omega
        | false =>
          by_cases h2 : s ∈ S
          · have HN : Hid (adm S [s] = [s]) := by have h := HA.out.1; unfold Hid adm; simp [anyP, h1, h2]
            have hd2 : decide (s ∈ S) = true := decide_eq_true h2
            have HPf : Hid (∀ w2 : World, Below wr.heap.size wr w2 → VRow 9 w.heap.size (w2.alloc (.cells #[encStr s] 9)) u6 ((adm S (L.take i)).map encStr) ∧ Below w.heap.size w (w2.alloc (.cells #[encStr s] 9)) ∧ w.heap.size ≤ (w2.alloc (.cells #[encStr s] 9)).heap.size) := fun w2 h =>
              have h1 := HS.out.2.1.trans (h.mono HS.out.2.1.size)
              ⟨(HS.out.1.below h).alloc _, h1.alloc h1.size _, (h1.alloc h1.size _).size⟩
            clear h2
            go_wp2_with (first
              | (go_at_call 27; refine (HH.out _ s HS.out.2.1 hsl).mono ?_; rintro e w2 ⟨rfl, hb2⟩; rw [hd2]; have HP := HPf.out w2 hb2; have HP : Hid _ := HP)
              | (at_builtin; refine wpList_apv rfl (.tmp 27) (.tmp 29) 23 23 rfl (.string ⟨#[]⟩) rfl 9 16 Tryd.undX Tryd.infoX (by decide) w.heap.size u6 ((adm S (L.take i)).map encStr) rfl HP.out.1 _ [encStr s] rfl (src_oneP (T := 9) (blk_nwP rfl rfl) rfl) (by have := HS.out.2.2; simp; omega) HP.out.2.2 ?_; intro v' w3 hV hG)
              | go_in)
            go_roundw
            case rel => exact ⟨i + 1, by go_num, by omega, by rw [HT.out, HN.out, List.map_append]; exact hV, (HP.out.2.1).trans (hG.below HP.out.1 HP.out.2.2)⟩
            case measure => simp [intOf]; omega
          · have HN : Hid (adm S [s] = []) := by have h := HA.out.1; unfold Hid adm; rw [h]; simp [h2]
            have hd2 : decide (s ∈ S) = false := decide_eq_false h2
            clear h2
            go_wp2_with (first
              | (go_at_call 27; refine (HH.out _ s HS.out.2.1 hsl).mono ?_; rintro e w2 ⟨rfl, hb2⟩; rw [hd2])
              | go_in)
            go_roundw
            case rel => exact ⟨i + 1, by go_num, by omega, by rw [HT.out, HN.out, List.append_nil]; exact HS.out.1.below hb2, HS.out.2.1.trans (hb2.mono HS.out.2.1.size)⟩
            case measure => simp [intOf]; omega
    · obtain rfl : i = n := by omega
      have hltI : ¬ (i : Int) < (i : Int) := by omega
      have HS : Hid (VRow 9 w.heap.size wr u6 ((adm S L).map encStr) ∧ Below w.heap.size w wr) := ⟨by rw [List.take_of_length_le (Nat.le_of_eq HX.out.2.1)] at hR; exact hR, hbl⟩
      clear hR hbl
      go_wp2
      go_ret
      exact ⟨_, rfl, HS.out.1, HS.out.2⟩
end Go.Proofs.YtkjdihikcgpabaaDoor
/-
  Policy: counts; what is granted; whether any policy counts.
-/
namespace Go.Proofs.YtkjdihikcgpabaaDoor
open Go.RowKit Go.Sort Go.Lib
theorem oneLess_any {w : World} (n : Int) (h0 : -9223372036854775808 ≤ n) (h1 : n ≤ 9223372036854775807) : Calls Tryd.prog 21 #[.int .i64 n] w fun e w' => e = .returned (.int .i64 (less n)) ∧ w = w' := by
  by_cases h : 0 < n
  · have e1 : ¬ n ≤ 0 := by omega
    have HL : Hid (less n = n - 1) := if_pos h
    go_enter Tryd.func21, Tryd.ntmps21
    go_wp2
    go_ret
    exact ⟨by rw [HL.out]; go_num, rfl⟩
  · have HL : Hid (less n = n) := if_neg h
    go_enter Tryd.func21, Tryd.ntmps21
    go_wp2
    go_ret
    exact ⟨by rw [HL.out]; exact rfl, rfl⟩
theorem bounded_any {w : World} (n b : Int) : Calls Tryd.prog 32 #[.int .i64 n, .int .i64 b] w fun e w' => e = .returned (.int .i64 (bnd n b)) ∧ w = w' := by
  by_cases h : 0 ≤ b
  · by_cases h2 : b < n
    · have HL : Hid (bnd n b = b) := if_pos ⟨h, h2⟩
      go_enter Tryd.func32, Tryd.ntmps32
      go_wp2
      go_ret
      exact ⟨by rw [HL.out]; exact rfl, rfl⟩
    · have HL : Hid (bnd n b = n) := if_neg (fun e => h2 e.2)
      go_enter Tryd.func32, Tryd.ntmps32
      go_wp2
      go_ret
      exact ⟨by rw [HL.out]; exact rfl, rfl⟩
  · have HL : Hid (bnd n b = n) := if_neg (fun e => h e.1)
    go_enter Tryd.func32, Tryd.ntmps32
    go_wp2
    go_ret
    exact ⟨by rw [HL.out]; exact rfl, rfl⟩
set_option maxRecDepth 20000 in
set_option maxHeartbeats 4000000 in
theorem granted_any {w : World} (v u : Value) (S U : List Tx) (hv : TxS w v S) (hu : TxS w u U) (hS : S.length ≤ 1048576) (hU : U.length ≤ 1048576) :
    Calls Tryd.prog 22 #[v, u] w fun e w' => ∃ r, e = .returned r ∧ TxS w' r (grant S U) ∧ Below w.heap.size w w' := by
  have HS1 : Hid (∀ w1 : World, Below w.heap.size w w1 → Calls Tryd.prog 28 #[v] w1 fun e w' => ∃ r, e = .returned r ∧ TxS w' r (srt S) ∧ Below w1.heap.size w1 w') := fun w1 h => sorted_any v S (hv.below h) hS
  have HSet : Hid (∀ w1 : World, Below w.heap.size w w1 → Calls Tryd.prog 26 #[u] w1 fun e w' => e = .returned (.map (some w1.heap.size)) ∧ SetM w' w1.heap.size U.length U ∧ Below w1.heap.size w1 w') := fun w1 h => setOf_any u U (hu.below h) hU
  have HSetS : Hid (∀ w1 : World, Below w.heap.size w w1 → Calls Tryd.prog 26 #[v] w1 fun e w' => e = .returned (.map (some w1.heap.size)) ∧ SetM w' w1.heap.size S.length S ∧ Below w1.heap.size w1 w') := fun w1 h => setOf_any v S (hv.below h) hS
  have HHas : Hid (∀ (w1 : World) (b m : Nat), SetM w1 b m U → Calls Tryd.prog 27 #[.map (some b), encStr anyP] w1 fun e w' => e = .returned (.bool (decide (anyP ∈ U))) ∧ Below w1.heap.size w1 w') := fun w1 b m h => has_any b m U anyP h (by unfold anyP maxLen; decide)
  have HAdm : Hid (∀ (w1 : World) (b m : Nat), Below w.heap.size w w1 → SetM w1 b m S → Calls Tryd.prog 29 #[.map (some b), u] w1 fun e w' => ∃ r, e = .returned r ∧ VRow 9 w1.heap.size w' r ((adm S U).map encStr) ∧ Below w1.heap.size w1 w') := fun w1 b m h hs => admitted_any b m S U u hs (hu.below h) hU
  have HSA : Hid (∀ (w1 : World) (r : Value) (B : Nat), VRow 9 B w1 r ((adm S U).map encStr) → Calls Tryd.prog 28 #[r] w1 fun e w' => ∃ r', e = .returned r' ∧ TxS w' r' (srt (adm S U)) ∧ Below w1.heap.size w1 w') := fun w1 r B h => sorted_any r (adm S U) (h.tx (fun s hs => hu.2 s ((mem_adm S U s).1 hs).1)) (Nat.le_trans (adm_len S U) hU)
  obtain ⟨a, c, rfl, hc⟩ := hu.form
  obtain ⟨n, hn⟩ : ∃ n, U.length = n := ⟨_, rfl⟩
  rw [hn] at HSet HAdm hU hc ⊢
  have Hn : Hid (U.length = n) := hn
  have HB : Hid (Below w.heap.size w w) := Below.refl _ _
  clear hv hu hn
  by_cases h0 : n = 0
  · subst h0
    have HG : Hid (grant S U = srt S) := by
      have : U = [] := List.eq_nil_of_length_eq_zero Hn.out
      exact if_pos (.inl this)
    go_enter Tryd.func22, Tryd.ntmps22
    go_wp2_with (first
      | (go_at_call 28; refine (HS1.out _ HB.out).mono ?_; rintro e w1 ⟨r, rfl, hr, hb1⟩)
      | go_in)
    go_ret
    exact ⟨_, rfl, by rw [HG.out]; exact hr, hb1⟩
  · have hne : (n : Int) ≠ 0 := by omega
    have hneb : ((n : Int) == 0) = false := by simpa using h0
    by_cases hm : anyP ∈ U
    · have HG : Hid (grant S U = srt S) := if_pos (.inr hm)
      have hd : decide (anyP ∈ U) = true := decide_eq_true hm
      clear hm
      go_enter Tryd.func22, Tryd.ntmps22
      go_wp2_with (first
        | (go_at_call 26; refine (HSet.out _ HB.out).mono ?_; rintro e w1 ⟨rfl, hs1, hb1⟩)
        | (go_at_call 27; refine (HHas.out _ _ _ hs1).mono ?_; rintro e w2 ⟨rfl, hb2⟩; rw [hd])
        | (go_at_call 28; refine (HS1.out _ (hb1.trans (hb2.mono hb1.size))).mono ?_; rintro e w3 ⟨r, rfl, hr, hb3⟩)
        | go_in)
      go_ret
      exact ⟨_, rfl, by rw [HG.out]; exact hr, (hb1.trans (hb2.mono hb1.size)).trans (hb3.mono (hb1.trans (hb2.mono hb1.size)).size)⟩
    · have HG : Hid (grant S U = srt (adm S U)) := if_neg (by
        rintro (h | h)
        · rw [h] at Hn; exact h0 Hn.out.symm
        · exact hm h)
      have hd : decide (anyP ∈ U) = false := decide_eq_false hm
      clear hm
      go_enter Tryd.func22, Tryd.ntmps22
      go_wp2_with (first
        | (go_at_call 27; refine (HHas.out _ _ _ hs1).mono ?_; rintro e w2 ⟨rfl, hb2⟩; rw [hd]; have hb12 := hb1.trans (hb2.mono hb1.size))
        | (go_at_call 26; first | (refine (HSetS.out _ hb12).mono ?_; rintro e w3 ⟨rfl, hs3, hb3⟩; have hb13 := hb12.trans (hb3.mono hb12.size)) | (refine (HSet.out _ HB.out).mono ?_; rintro e w1 ⟨rfl, hs1, hb1⟩))
        | (go_at_call 29; refine (HAdm.out _ _ _ hb13 hs3).mono ?_; rintro e w4 ⟨r4, rfl, hr4, hb4⟩; have hb14 := hb13.trans (hb4.mono hb13.size))
        | (go_at_call 28; refine (HSA.out _ _ _ hr4).mono ?_; rintro e w5 ⟨r, rfl, hr, hb5⟩)
        | go_in)
      go_ret
      exact ⟨_, rfl, by rw [HG.out]; exact hr, hb14.trans (hb5.mono hb14.size)⟩
end Go.Proofs.YtkjdihikcgpabaaDoor
/-
  Policy: whether any policy counts.
-/
namespace Go.Proofs.YtkjdihikcgpabaaDoor
open Go.RowKit Go.Sort Go.Lib
/-- Whether a certificate's names are one, as the program finds it. -/
def OwnC (w : World) (c : Value) (o : Bool) : Prop := ∀ w1 : World, Below w.heap.size w w1 → Calls Tryd.prog 31 #[c] w1 fun e w' => e = .returned (.bool o) ∧ Below w1.heap.size w1 w'
theorem wpList_load_midG {P : Program} {ops : Array Oper} {rest : List Oper} {op : Oper} {a : Act} {w : World} {Q : Exit → Act → World → Prop} (hw : Region.wanted op (yielded ops a.tmps) = true) (ty : TypeId) (x : Operand) (ho : op.op = .load ty x)
    (b o : Nat) (hx : a.eval x = .pointer (some ⟨b, o, none⟩)) (cs : List Value) (d : TypeDesc) (hc : w.rangeAt b o cs)
    (hu : P.underlying ty = some d) (hd : d.isRow = true) (hi : (P.info? ty).map (·.size) = some cs.length)
    (h : wpList P ops Q rest (a.put op.dst (.agg cs.toArray)) w) : wpList P ops Q (op :: rest) a w := by
  show if Region.wanted op (yielded ops a.tmps) = true then _ else _
  rw [if_pos hw]
  exact .inl (wp_load_mid ty x ho b o hx cs d hc hu hd hi h)
theorem szC : (Tryd.prog.info? 48).map (·.size) = some 31 := by kernel_rfl
theorem OwnC.below {w w' : World} {c : Value} {o : Bool} (h : OwnC w c o) (hb : Below w.heap.size w w') : OwnC w' c o := fun w1 h1 => h w1 (hb.trans (h1.mono hb.size))
set_option maxRecDepth 20000 in
set_option maxHeartbeats 4000000 in
theorem anyCounts_any {w : World} (u : Value) (pe pa : Int) (ci cs cp : Value) (cr ch : Int) (last o : Bool) (hO : last = false → OwnC w (.agg #[.slice none 0 0, .slice none 0 0, .slice none 0 0, ci, cs, .int .i64 0, .int .i64 0, .int .i64 0, .slice none 0 0, .slice none 0 0, .slice none 0 0, .slice none 0 0, .int .i64 0, .int .i64 0, .int .i64 0, .int .i64 0, .slice none 0 0, .bool false, .int .i64 0, .int .i64 0, .slice none 0 0, .bool false, .slice none 0 0, .slice none 0 0, .slice none 0 0, cp, .int .i64 cr, .int .i64 ch, .slice none 0 0, .slice none 0 0, .bool false]) o) :
    Calls Tryd.prog 35 #[.agg #[u, .int .i64 pe, .int .i64 pa], .agg #[.slice none 0 0, .slice none 0 0, .slice none 0 0, ci, cs, .int .i64 0, .int .i64 0, .int .i64 0, .slice none 0 0, .slice none 0 0, .slice none 0 0, .slice none 0 0, .int .i64 0, .int .i64 0, .int .i64 0, .int .i64 0, .slice none 0 0, .bool false, .int .i64 0, .int .i64 0, .slice none 0 0, .bool false, .slice none 0 0, .slice none 0 0, .slice none 0 0, cp, .int .i64 cr, .int .i64 ch, .slice none 0 0, .slice none 0 0, .bool false], .bool last] w fun e w' => e = .returned (.bool (decide (0 < pa) || (!last && o))) ∧ Below w.heap.size w w' := by
  by_cases h : 0 < pa
  · have hd : decide (0 < pa) = true := decide_eq_true h
    rw [hd]
    clear hO
    go_enter Tryd.func35, Tryd.ntmps35
    go_wp2
    go_ret
    exact ⟨rfl, ((Below.refl _ _).alloc (Nat.le_refl _) _).alloc ((Below.refl _ _).alloc (Nat.le_refl _) _).size _⟩
  · have hd : decide (0 < pa) = false := decide_eq_false h
    rw [hd]
    cases last with
    | true =>
      clear hO
      go_enter Tryd.func35, Tryd.ntmps35
      go_wp2
      go_ret
      exact ⟨rfl, ((Below.refl _ _).alloc (Nat.le_refl _) _).alloc ((Below.refl _ _).alloc (Nat.le_refl _) _).size _⟩
    | false =>
      have HO : Hid (OwnC w (.agg #[.slice none 0 0, .slice none 0 0, .slice none 0 0, ci, cs, .int .i64 0, .int .i64 0, .int .i64 0, .slice none 0 0, .slice none 0 0, .slice none 0 0, .slice none 0 0, .int .i64 0, .int .i64 0, .int .i64 0, .int .i64 0, .slice none 0 0, .bool false, .int .i64 0, .int .i64 0, .slice none 0 0, .bool false, .slice none 0 0, .slice none 0 0, .slice none 0 0, cp, .int .i64 cr, .int .i64 ch, .slice none 0 0, .slice none 0 0, .bool false]) o) := hO rfl
      have HB : Hid (∀ o1 o2 : Obj, Below w.heap.size w ((w.alloc o1).alloc o2)) := fun o1 o2 => ((Below.refl _ _).alloc (Nat.le_refl _) _).alloc ((Below.refl _ _).alloc (Nat.le_refl _) _).size _
      have HW : Hid (World.rangeAt ((w.alloc (.cells #[u, .int .i64 pe, .int .i64 pa] 25)).alloc (.cells #[.slice none 0 0, .slice none 0 0, .slice none 0 0, ci, cs, .int .i64 0, .int .i64 0, .int .i64 0, .slice none 0 0, .slice none 0 0, .slice none 0 0, .slice none 0 0, .int .i64 0, .int .i64 0, .int .i64 0, .int .i64 0, .slice none 0 0, .bool false, .int .i64 0, .int .i64 0, .slice none 0 0, .bool false, .slice none 0 0, .slice none 0 0, .slice none 0 0, cp, .int .i64 cr, .int .i64 ch, .slice none 0 0, .slice none 0 0, .bool false] 48)) (w.heap.size + 1) 0 [.slice none 0 0, .slice none 0 0, .slice none 0 0, ci, cs, .int .i64 0, .int .i64 0, .int .i64 0, .slice none 0 0, .slice none 0 0, .slice none 0 0, .slice none 0 0, .int .i64 0, .int .i64 0, .int .i64 0, .int .i64 0, .slice none 0 0, .bool false, .int .i64 0, .int .i64 0, .slice none 0 0, .bool false, .slice none 0 0, .slice none 0 0, .slice none 0 0, cp, .int .i64 cr, .int .i64 ch, .slice none 0 0, .slice none 0 0, .bool false]) := by
        have := (Blk.new 48 (w.alloc (.cells #[u, .int .i64 pe, .int .i64 pa] 25)) [.slice none 0 0, .slice none 0 0, .slice none 0 0, ci, cs, .int .i64 0, .int .i64 0, .int .i64 0, .slice none 0 0, .slice none 0 0, .slice none 0 0, .slice none 0 0, .int .i64 0, .int .i64 0, .int .i64 0, .int .i64 0, .slice none 0 0, .bool false, .int .i64 0, .int .i64 0, .slice none 0 0, .bool false, .slice none 0 0, .slice none 0 0, .slice none 0 0, cp, .int .i64 cr, .int .i64 ch, .slice none 0 0, .slice none 0 0, .bool false]).whole
        rw [show (w.alloc (.cells #[u, .int .i64 pe, .int .i64 pa] 25)).heap.size = w.heap.size + 1 by simp] at this
        exact this
      clear hO
      go_enter Tryd.func35, Tryd.ntmps35
      go_wp2_with (first
        | (refine wpList_load_midG rfl 48 (.tmp 4) rfl (w.heap.size + 1) 0 rfl [.slice none 0 0, .slice none 0 0, .slice none 0 0, ci, cs, .int .i64 0, .int .i64 0, .int .i64 0, .slice none 0 0, .slice none 0 0, .slice none 0 0, .slice none 0 0, .int .i64 0, .int .i64 0, .int .i64 0, .int .i64 0, .slice none 0 0, .bool false, .int .i64 0, .int .i64 0, .slice none 0 0, .bool false, .slice none 0 0, .slice none 0 0, .slice none 0 0, cp, .int .i64 cr, .int .i64 ch, .slice none 0 0, .slice none 0 0, .bool false] _ HW.out Tryd.underlying48 rfl szC ?_)
        | (go_at_call 31; refine (HO.out _ (HB.out _ _)).mono ?_; rintro e w1 ⟨rfl, hb1⟩)
        | go_in)
      go_ret
      exact ⟨by simp, (HB.out _ _).trans (hb1.mono (HB.out _ _).size)⟩
end Go.Proofs.YtkjdihikcgpabaaDoor
