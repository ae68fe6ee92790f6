/-
  Contracts of the library, laid at this program.
-/
import Derived.Shelf.SlGeneric
import Derived.Shelf.SlSortCmp.Whole1
import Derived.Shelf.SlCmpFuncs.IsSortedFunc
import Derived.Shelf.SlCmpFuncs.None
import Derived.Ground.SlsfProg
import Derived.Ground.SlsgProg
import Derived.Test.YtefebamomdcaaaaGreatDoorProg
import Derived.Test.YtefebamomdcaaaaGreatDoorK30
namespace Go.Proofs
open Go.Shelf
def Tryz.sortL_ren : Go.Shelf.Ren := ⟨fun | 6 => 121 | 15 => 133 | 14 => 132 | 28 => 149 | 29 => 136 | 20 => 141 | 21 => 142 | 22 => 143 | 23 => 144 | 24 => 145 | 25 => 146 | 26 => 147 | 27 => 148 | 46 => 152 | 47 => 153 | 48 => 154 | 49 => 155 | 50 => 156 | 57 => 157 | n => n, fun | 22 => 199 | 24 => 119 | 25 => 201 | 3 => 3 | 39 => 115 | 0 => 0 | 53 => 85 | 55 => 132 | 4 => 4 | 46 => 220 | 45 => 219 | 50 => 106 | 5 => 5 | 9 => 9 | 66 => 226 | 70 => 230 | 76 => 234 | 77 => 116 | n => n, fun | n => n⟩
theorem Tryz.sortL : Go.Proofs.SlLaysF.n6 Tryz.prog Tryz.sortL_ren := {
  mixed := by kernel_rfl
  f6 := ⟨Tryz.f121.name, by decide, Tryz.func121.trans (congrArg some (by kernel_rfl))⟩
  f14 := ⟨Tryz.f132.name, by decide, Tryz.func132.trans (congrArg some (by kernel_rfl))⟩
  f15 := Tryz.func133.trans (congrArg some (by kernel_rfl))
  f20 := ⟨Tryz.f141.name, by decide, Tryz.func141.trans (congrArg some (by kernel_rfl))⟩
  f21 := ⟨Tryz.f142.name, by decide, Tryz.func142.trans (congrArg some (by kernel_rfl))⟩
  f22 := ⟨Tryz.f143.name, by decide, Tryz.func143.trans (congrArg some (by kernel_rfl))⟩
  f23 := ⟨Tryz.f144.name, by decide, Tryz.func144.trans (congrArg some (by kernel_rfl))⟩
  f24 := ⟨Tryz.f145.name, by decide, Tryz.func145.trans (congrArg some (by kernel_rfl))⟩
  f25 := ⟨Tryz.f146.name, by decide, Tryz.func146.trans (congrArg some (by kernel_rfl))⟩
  f26 := ⟨Tryz.f147.name, by decide, Tryz.func147.trans (congrArg some (by kernel_rfl))⟩
  f27 := ⟨Tryz.f148.name, by decide, Tryz.func148.trans (congrArg some (by kernel_rfl))⟩
  f28 := Tryz.func149.trans (congrArg some (by kernel_rfl))
  f29 := Tryz.func136.trans (congrArg some (by kernel_rfl))
  f46 := ⟨Tryz.f152.name, by decide, Tryz.func152.trans (congrArg some (by kernel_rfl))⟩
  f47 := Tryz.func153.trans (congrArg some (by kernel_rfl))
  f48 := Tryz.func154.trans (congrArg some (by kernel_rfl))
  f49 := ⟨Tryz.f155.name, by decide, Tryz.func155.trans (congrArg some (by kernel_rfl))⟩
  f50 := ⟨Tryz.f156.name, by decide, Tryz.func156.trans (congrArg some (by kernel_rfl))⟩
  f57 := ⟨Tryz.f157.name, by decide, Tryz.func157.trans (congrArg some (by kernel_rfl))⟩
  t0 := Tryz.underlying0
  a0 := Tryz.isAgg0
  z0 := Tryz.sizeOf0
  v0 := Tryz.zeroValue0
  t3 := Tryz.underlying3
  a3 := Tryz.isAgg3
  z3 := Tryz.sizeOf3
  v3 := Tryz.zeroValue3
  t4 := Tryz.underlying4
  a4 := Tryz.isAgg4
  z4 := Tryz.sizeOf4
  v4 := Tryz.zeroValue4
  t5 := Tryz.underlying5
  a5 := Tryz.isAgg5
  z5 := Tryz.sizeOf5
  v5 := Tryz.zeroValue5
  t9 := Tryz.underlying9
  a9 := Tryz.isAgg9
  z9 := Tryz.sizeOf9
  v9 := Tryz.zeroValue9
  t22 := Tryz.underlying199
  a22 := Tryz.isAgg199
  z22 := Tryz.sizeOf199
  v22 := Tryz.zeroValue199
  a24 := Tryz.isAgg119
  z24 := Tryz.sizeOf119
  t25 := Tryz.underlying201
  a25 := Tryz.isAgg201
  z25 := Tryz.sizeOf201
  v25 := Tryz.zeroValue201
  t39 := Tryz.underlying115
  a39 := Tryz.isAgg115
  z39 := Tryz.sizeOf115
  v39 := Tryz.zeroValue115
  t45 := Tryz.underlying219
  a45 := Tryz.isAgg219
  z45 := Tryz.sizeOf219
  v45 := Tryz.zeroValue219
  t46 := Tryz.underlying220
  a46 := Tryz.isAgg220
  z46 := Tryz.sizeOf220
  v46 := Tryz.zeroValue220
  t50 := Tryz.underlying106
  a50 := Tryz.isAgg106
  z50 := Tryz.sizeOf106
  v50 := Tryz.zeroValue106
  t53 := Tryz.underlying85
  a53 := Tryz.isAgg85
  z53 := Tryz.sizeOf85
  v53 := Tryz.zeroValue85
  t55 := Tryz.underlying132
  a55 := Tryz.isAgg132
  z55 := Tryz.sizeOf132
  v55 := Tryz.zeroValue132
  t66 := Tryz.underlying226
  a66 := Tryz.isAgg226
  z66 := Tryz.sizeOf226
  v66 := Tryz.zeroValue226
  t70 := Tryz.underlying230
  a70 := Tryz.isAgg230
  z70 := Tryz.sizeOf230
  v70 := Tryz.zeroValue230
  t76 := Tryz.underlying234
  a76 := Tryz.isAgg234
  z76 := Tryz.sizeOf234
  v76 := Tryz.zeroValue234
  t77 := Tryz.underlying116
  a77 := Tryz.isAgg116
  z77 := Tryz.sizeOf116
  v77 := Tryz.zeroValue116 }
def Tryz.isSortedL_ren : Go.Shelf.Ren := ⟨fun | 7 => 119 | n => n, fun | 22 => 199 | 24 => 119 | 25 => 201 | 4 => 4 | 3 => 3 | 0 => 0 | n => n, fun | n => n⟩
theorem Tryz.isSortedL : Go.Proofs.SlLaysG2.n7 Tryz.prog Tryz.isSortedL_ren := {
  mixed := by kernel_rfl
  f7 := ⟨Tryz.f119.name, by decide, Tryz.func119.trans (congrArg some (by kernel_rfl))⟩
  t0 := Tryz.underlying0
  a0 := Tryz.isAgg0
  z0 := Tryz.sizeOf0
  v0 := Tryz.zeroValue0
  t3 := Tryz.underlying3
  a3 := Tryz.isAgg3
  z3 := Tryz.sizeOf3
  v3 := Tryz.zeroValue3
  t4 := Tryz.underlying4
  a4 := Tryz.isAgg4
  z4 := Tryz.sizeOf4
  v4 := Tryz.zeroValue4
  t22 := Tryz.underlying199
  a22 := Tryz.isAgg199
  z22 := Tryz.sizeOf199
  v22 := Tryz.zeroValue199
  a24 := Tryz.isAgg119
  z24 := Tryz.sizeOf119
  t25 := Tryz.underlying201
  a25 := Tryz.isAgg201
  z25 := Tryz.sizeOf201
  v25 := Tryz.zeroValue201 }
end Go.Proofs
/-
  Ber: rows of nodes that are sorted by what they are laid of: over lists, and the world of a sort.
-/
namespace Go.Proofs.YtefebamomdcaaaaGreatDoor
open Go.RowKit
abbrev ndsOf (x : List Nv) : List Nd := x.map (·.nd)
/-- In order: no later one is less. -/
def Srt (G : List (List Nv)) : Prop := G.Pairwise fun a b => ¬ cmpB (bytesOf (ndsOf b)) (bytesOf (ndsOf a)) < 0
/-- The j-th one; the first one where there is none. -/
def gtN (G : List (List Nv)) (j : Nat) : List Nv := G.getD j (G.headD [])
def posN (G : List (List Nv)) (j : Nat) : Nat := (G.take j).flatten.length
/-- The slice of the j-th one. -/
def encN (g o c : Nat) (G : List (List Nv)) (j : Nat) : Value := .slice (some ⟨g, o + posN G (if j < G.length then j else 0) * 8, none⟩) (gtN G j).length (c - posN G (if j < G.length then j else 0))
def cfN (G : List (List Nv)) (i j : Nat) : Int := cmpN (ndsOf (gtN G i)) (ndsOf (gtN G j))
theorem gtN_at {G : List (List Nv)} {j : Nat} (h : j < G.length) : gtN G j = G[j] := by unfold gtN; rw [List.getD_eq_getElem?_getD, List.getElem?_eq_getElem h]; rfl
theorem gtN_mem {G : List (List Nv)} (h0 : 0 < G.length) (j : Nat) : gtN G j ∈ G := by
  by_cases h : j < G.length
  · rw [gtN_at h]; exact List.getElem_mem _
  · unfold gtN
    rw [List.getD_eq_getElem?_getD, List.getElem?_eq_none (by omega)]
    cases G with
    | nil => simp at h0
    | cons x r => simp
theorem cfN_bytes {G : List (List Nv)} (h0 : 0 < G.length) (hG : ∀ x ∈ G, wN (ndsOf x)) (i j : Nat) : cfN G i j = cmpB (bytesOf (ndsOf (gtN G i))) (bytesOf (ndsOf (gtN G j))) := cmpN_bytes (hG _ (gtN_mem h0 i)) (hG _ (gtN_mem h0 j))
theorem cmpB_ntrans {a b c : List Int} (h1 : ¬ cmpB a b < 0) (h2 : ¬ cmpB b c < 0) : ¬ cmpB a c < 0 := by
  intro h
  have s1 := cmpB_swap a b
  have s2 := cmpB_swap b c
  have r1 := cmpB_range a b
  have r2 := cmpB_range b c
  by_cases e1 : cmpB a b = 0
  · have := cmpB_eq.1 e1; subst this; exact h2 h
  · by_cases e2 : cmpB b c = 0
    · have := cmpB_eq.1 e2; subst this; exact h1 h
    · have h3 : cmpB c b < 0 := by omega
      have h4 : cmpB b a < 0 := by omega
      have h5 := cmpB_trans h3 h4
      have s3 := cmpB_swap a c
      omega
theorem swoN {G : List (List Nv)} (h0 : 0 < G.length) (hG : ∀ x ∈ G, wN (ndsOf x)) : Go.Sort.SWO (ltOf (cfN G)) := by
  refine ⟨fun x => ?_, fun x y z h1 h2 => ?_, fun x y z h1 h2 => ?_⟩
  · unfold ltOf; rw [cfN_bytes h0 hG, cmpB_self]; rfl
  · unfold ltOf at *
    rw [cfN_bytes h0 hG] at *
    simp only [decide_eq_true_eq] at *
    exact cmpB_trans h1 h2
  · unfold ltOf at *
    rw [cfN_bytes h0 hG] at *
    simp only [decide_eq_false_iff_not] at *
    exact cmpB_ntrans h1 h2
/-- The world of a sort of a block of one's own. -/
theorem sortWorld_below {α : Type} [Inhabited α] {B : Nat} (enc : α → Value) (w : World) {blk : Nat} (off m : Nat) (dk : Array α) (os : Array Obj) (hB : B ≤ blk) (hw : B ≤ w.heap.size) : Below B w (sortWorld enc w blk off m dk os) := by
  refine ⟨rfl, rfl, rfl, ?_, fun k hk => ?_⟩
  · unfold sortWorld
    rw [Go.Sort.size_grow]
    simp [Go.Sort.putRow, Go.Sort.mapBlock, Go.Sort.ahead]
  · unfold sortWorld Go.Sort.grow Go.Sort.putRow Go.Sort.mapBlock Go.Sort.ahead
    simp only [Array.getElem?_append, Array.size_modify, Array.getElem?_modify]
    rw [if_pos (by omega), if_neg (by omega)]
end Go.Proofs.YtefebamomdcaaaaGreatDoor
/-
  Ber: slices.IsSortedFunc, slices.SortFunc at rows of nodes.
-/
namespace Go.Proofs.YtefebamomdcaaaaGreatDoor
open Go.RowKit
theorem eg_compare (args : Array Value) (w : World) : (callFunc 120 args).run Tryz.prog w = .ok (.enter 120 args) w := by
  have g1 : ¬ Tryz.f120.name = "runtime.NumGoroutine" := by decide +kernel
  have g2 : Tryz.f120.body.isNone = false := by kernel_rfl
  have g3 : ¬ Tryz.f120.body = none := fun h => by rw [h] at g2; cases g2
  simp [go_sem, callFunc, Tryz.func120, g1, g3]
/-- What is known of the rows: in every world that is as w below block B. -/
structure RwI (B : Nat) (w : World) (g o c : Nat) (G : List (List Nv)) : Prop where
  k0 : 0 < G.length
  nd : ∀ W, Below B w W → ∀ x, NdS W (encN g o c G x) (gtN G x)
  u8 : ∀ x, ∀ z ∈ gtN G x, U8s z.nd.1.d ∧ U8s z.nd.2
  ln : ∀ x, (gtN G x).length ≤ 65536
  wn : ∀ x ∈ G, wN (ndsOf x)
theorem RwI.mono {B B' : Nat} {w w' : World} {g o c : Nat} {G : List (List Nv)} (h : RwI B w g o c G) (hb : Below B w w') (hB : B ≤ B') : RwI B' w' g o c G :=
  ⟨h.k0, fun W hW => h.nd W (hb.trans (hW.mono hB)), h.u8, h.ln, h.wn⟩
theorem cmpReads {B : Nat} {w : World} {g o c : Nat} {G : List (List Nv)} (h : RwI B w g o c G) {blk : Nat} (hB : B ≤ blk) (hw : B ≤ w.heap.size) (k : Nat) : CmpLays1 Tryz.prog 120 #[] (encN g o c G) (cfN G) blk 0 k w :=
  CmpReads.lays fun m os dk _ x y => by
    have hb := sortWorld_below (B := B) (encN g o c G) w (blk := blk) 0 m dk os hB hw
    exact compare_any (w := sortWorld (encN g o c G) w blk 0 m dk os) (encN g o c G x) (encN g o c G y) (gtN G x) (gtN G y) (h.nd _ hb x) (h.nd _ hb y) (h.u8 x) (h.u8 y) (h.ln x) (h.ln y)
theorem oneRw (g o c : Nat) (G : List (List Nv)) : OneCell (encN g o c G) := fun _ => rfl
/-- The rows in a block of their own. -/
theorem holdsN {T : TypeId} {w : World} {blk : Nat} {S : List Value} (hA : Blk T w blk S) {k : Nat} {enc : Nat → Value} (hS : S.take k = (List.range k).map enc) : Go.Sort.Holds enc w blk 0 (Array.range k) := by
  intro j hj
  have hj' : j < k := by simpa using hj
  refine ⟨?_, hA.frozen _⟩
  rw [hA.cell, Nat.zero_add]
  have h1 : (S.take k)[j]? = some (enc j) := by rw [hS]; simp [hj']
  rw [List.getElem?_take, if_pos hj'] at h1
  rw [h1]
  simp [hj']
theorem srt_of {G : List (List Nv)} (h : ∀ i, i + 1 < G.length → ¬ cmpB (bytesOf (ndsOf (gtN G (i + 1)))) (bytesOf (ndsOf (gtN G i))) < 0) : Srt G := by
  have key : ∀ d i, i + d + 1 < G.length → ¬ cmpB (bytesOf (ndsOf (gtN G (i + d + 1)))) (bytesOf (ndsOf (gtN G i))) < 0 := by
    intro d
    induction d with
    | zero => intro i hi; exact h i hi
    | succ d ih => intro i hi; exact cmpB_ntrans (h (i + (d + 1)) (by omega)) (ih i (by omega))
  unfold Srt
  rw [List.pairwise_iff_getElem]
  intro i j hi hj hij
  have h1 := key (j - i - 1) i (by omega)
  rw [show i + (j - i - 1) + 1 = j by omega, gtN_at hi, gtN_at hj] at h1
  exact h1
theorem IsSorted_any {B : Nat} {w : World} {g o c : Nat} {G : List (List Nv)} (h : RwI B w g o c G) {T : TypeId} {blk : Nat} {S : List Value} (hA : Blk T w blk S) (hB : B ≤ blk) (hS : S.take G.length = (List.range G.length).map (encN g o c G)) (cap : Nat) (hk : G.length ≤ 65536) :
    Calls Tryz.prog 119 #[.slice (some ⟨blk, 0, none⟩) G.length cap, .func (.func 120) #[] #[]] w fun e w' => (∃ q, e = .returned (.bool q) ∧ (q = true → Srt G)) ∧ Below B w w' ∧ Go.Sort.Holds (encN g o c G) w' blk 0 (Array.range G.length) := by
  have hH := holdsN hA hS
  have hwB : B ≤ w.heap.size := Nat.le_of_lt (Nat.lt_of_le_of_lt hB hA.lt)
  have hsz : (Array.range G.length).size = G.length := by simp
  have hm := Any.slices_IsSortedFunc Tryz.isSortedL (encN g o c G) (oneRw g o c G) (cfN G) 120 #[] blk 0 cap (Array.range G.length) w (fun args w => eg_compare args w) (cmpReads h hB hwB _) hH hA.lt (by rw [hsz]; omega)
  rw [hsz] at hm
  refine Calls.mono hm ?_
  rintro e w' ⟨rfl, hSW⟩
  refine ⟨⟨_, rfl, fun hq => ?_⟩, ?_, hSW.holds hA.lt hH rfl⟩
  · rw [Lib.downOK_iff] at hq
    refine srt_of fun i hi => ?_
    have h1 := hq i (by omega)
    unfold ltOf at h1
    rw [cfN_bytes h.k0 h.wn] at h1
    simp only [decide_eq_false_iff_not] at h1
    have e1 : (Array.range G.length)[i + 1]! = i + 1 := by simp [hi]
    have e2 : (Array.range G.length)[i]! = i := by simp [show i < G.length by omega]
    rw [e1, e2] at h1
    exact h1
  · obtain ⟨n, os, rfl⟩ := hSW
    exact sortWorld_below _ w 0 n _ os hB hwB
theorem range_gt (G : List (List Nv)) : (List.range G.length).map (gtN G) = G := by
  refine List.ext_getElem (by simp) fun i h1 h2 => ?_
  simp only [List.getElem_map, List.getElem_range]
  exact gtN_at h2
theorem Sort_any {B : Nat} {w : World} {g o c : Nat} {G : List (List Nv)} (h : RwI B w g o c G) {blk : Nat} (hH : Go.Sort.Holds (encN g o c G) w blk 0 (Array.range G.length)) (hblk : blk < w.heap.size) (hB : B ≤ blk) (cap : Nat) (hk : G.length ≤ 65536) :
    Calls Tryz.prog 121 #[.slice (some ⟨blk, 0, none⟩) G.length cap, .func (.func 120) #[] #[]] w fun e w' => e = .returned (.tuple #[]) ∧ ∃ D : List Nat, D.length = G.length ∧ (D.map (gtN G)).Perm G ∧ Srt (D.map (gtN G)) ∧ Below B w w' ∧ blk < w'.heap.size ∧ ∀ i (hi : i < D.length), w'.cell? ⟨blk, i, none⟩ = some (encN g o c G D[i]) := by
  have hwB : B ≤ w.heap.size := Nat.le_of_lt (Nat.lt_of_le_of_lt hB hblk)
  have hsz : (Array.range G.length).size = G.length := by simp
  have hm := Any.slices_SortFunc Tryz.sortL (encN g o c G) (oneRw g o c G) (cfN G) (swoN h.k0 h.wn) 120 #[] blk 0 cap (Array.range G.length) w (fun args w => eg_compare args w) (cmpReads h hB hwB _) hH hblk (by rw [hsz]; omega)
  rw [hsz] at hm
  refine Calls.mono hm ?_
  rintro e w' ⟨rfl, d', n, os, hP, hSo, rfl⟩
  obtain ⟨h1, _, h3⟩ := hP
  rw [hsz] at h1
  have hhold : Go.Sort.Holds (encN g o c G) (sortWorld (encN g o c G) w blk 0 n d' os) blk 0 d' := (show SW (encN g o c G) w blk 0 d' (sortWorld (encN g o c G) w blk 0 n d' os) from ⟨n, os, rfl⟩).holds hblk hH (by rw [h1, hsz])
  have hl : d'.toList.length = G.length := by simpa using h1
  have e1 : (d'.extract 0 G.length).toList = d'.toList := by
    rw [← h1]; simp
  have e2 : ((Array.range G.length).extract 0 G.length).toList = List.range G.length := by
    simp
  rw [e1, e2] at h3
  refine ⟨rfl, d'.toList, hl, ?_, ?_, sortWorld_below _ w 0 n _ os hB hwB, ?_, fun i hi => ?_⟩
  · have := h3.map (gtN G)
    rwa [range_gt] at this
  · unfold Srt
    rw [List.pairwise_iff_getElem]
    intro i j hi hj hij
    simp only [List.length_map] at hi hj
    have h4 := hSo i j (Nat.zero_le _) hij (by omega)
    unfold ltOf at h4
    rw [cfN_bytes h.k0 h.wn] at h4
    simp only [decide_eq_false_iff_not] at h4
    simp only [List.getElem_map]
    have e3 : d'[i]! = d'.toList[i] := by rw [getElem!_pos d' i (by omega)]; simp
    have e4 : d'[j]! = d'.toList[j] := by rw [getElem!_pos d' j (by omega)]; simp
    rw [e3, e4] at h4
    exact h4
  · unfold sortWorld
    rw [Go.Sort.size_grow]
    simp only [Go.Sort.putRow, Go.Sort.mapBlock, Go.Sort.ahead, Array.size_modify]
    omega
  · have h5 := (hhold i (by omega)).1
    rw [Nat.zero_add] at h5
    rw [h5]
    have e3 : d'[i]! = d'.toList[i] := by rw [getElem!_pos d' i (by omega)]; simp
    rw [e3]
end Go.Proofs.YtefebamomdcaaaaGreatDoor
/-
  Ber: sortSet walked.
-/
namespace Go.Proofs.YtefebamomdcaaaaGreatDoor
open Go.RowKit
theorem Tryz.undR : Tryz.prog.underlying 199 = some (.slice 119) := by kernel_rfl
theorem Tryz.infoR : (Tryz.prog.info? 119).map (fun i => (i.zero, i.size, i.bytes)) = some (some (.slice none 0 0), 1, 24) := by kernel_rfl
theorem posN_succ {G : List (List Nv)} {j : Nat} (h : j < G.length) : posN G (j + 1) = posN G j + G[j].length := by unfold posN; rw [flat_take h, List.length_append]
theorem posN_le (G : List (List Nv)) (j : Nat) : posN G j ≤ G.flatten.length := flat_le G j
theorem posN_all (G : List (List Nv)) {j : Nat} (h : G.length ≤ j) : posN G j = G.flatten.length := by unfold posN; rw [List.take_of_length_le h]
theorem part_cells {G : List (List Nv)} {j : Nat} (h : j < G.length) {i : Nat} (hi : i < G[j].length * 8) : (ndCells G.flatten)[posN G j * 8 + i]? = (ndCells G[j])[i]? := by
  have e : G.flatten = (G.take j).flatten ++ (G[j] ++ (G.drop (j + 1)).flatten) := by
    conv => lhs; rw [← List.take_append_drop j G, List.flatten_append, List.drop_eq_getElem_cons h, List.flatten_cons]
  rw [e, ndCells_app, ndCells_app, List.getElem?_append_right (by rw [ndCells_len]; unfold posN; omega), ndCells_len]
  rw [show posN G j * 8 + i - (G.take j).flatten.length * 8 = i by unfold posN; omega, List.getElem?_append_left (by rw [ndCells_len]; exact hi)]
theorem mem_flat {G : List (List Nv)} (h0 : 0 < G.length) {x : Nat} {z : Nv} (hz : z ∈ gtN G x) : z ∈ G.flatten := List.mem_flatten.2 ⟨_, gtN_mem h0 x, hz⟩
theorem nds_part {T : TypeId} {W : World} {g o c n : Nat} {D : List Value} {G : List (List Nv)} (hA : Blk T W g D) (hn : G.flatten.length = n) (hnc : n ≤ c) (hD : (D.drop o).take (n * 8) = ndCells G.flatten) (hsl : ∀ z ∈ G.flatten, Sl .u8 W z.s z.nd.1.d ∧ Sl .u8 W z.f z.nd.2) (h0 : 0 < G.length) (x : Nat) : NdS W (encN g o c G x) (gtN G x) := by
  obtain ⟨j, hj, hx⟩ : ∃ j, j < G.length ∧ (if x < G.length then x else 0) = j ∧ gtN G x = gtN G j := by
    by_cases h : x < G.length
    · exact ⟨x, h, by rw [if_pos h], rfl⟩
    · refine ⟨0, h0, by rw [if_neg h], ?_⟩
      rw [gtN_at h0]
      unfold gtN
      rw [List.getD_eq_getElem?_getD, List.getElem?_eq_none (by omega)]
      cases G with
      | nil => simp at h0
      | cons y r => rfl
  unfold encN
  rw [hx.1, hx.2, gtN_at hj]
  have hp := posN_le G (j + 1)
  rw [posN_succ hj, hn] at hp
  refine ⟨_, _, rfl, by omega, ?_, fun z hz => hsl z (List.mem_flatten.2 ⟨_, List.getElem_mem hj, hz⟩)⟩
  right
  refine ⟨g, o + posN G j * 8, rfl, hA.lt, fun i hi => ?_⟩
  rw [hA.cell, ← part_cells hj hi, ← hD, List.getElem?_take, if_pos (by omega), List.getElem?_drop]
  congr 1
  omega
theorem src_mrow {P : Program} {tx e' T : TypeId} (hk : P.underlying tx = some (.slice e')) {m B : Nat} {w : World} {v : Value} {n : Nat} {xs : List Value} (h : MRow m T B w v n xs) (ho : ∀ u ∈ xs, u.oneCell' = true) : Src P m tx v n xs w := by
  obtain ⟨h0, ⟨rfl, rfl⟩ | ⟨b, S, c, rfl, h1, hA, h2, h3, h4, h5⟩⟩ := h
  · simp only [Nat.zero_mul, List.length_eq_zero_iff] at h0
    subst h0
    exact Src.ofNil w hk 0
  · refine Src.ofSlice w hk _ _ _ _ h0 (fun j u hj => ?_) ho
    have hl : j < n * m := by have := (List.getElem?_eq_some_iff.1 hj).1; rwa [h0] at this
    have hadd : (⟨b, 0, none⟩ : Addr).add j = ⟨b, j, none⟩ := by simp [Addr.add] <;> omega
    rw [hadd, hA.cell, ← hj, ← h4, List.getElem?_take, if_pos hl]
theorem cellLt {w : World} {b o : Nat} {v : Value} (h : w.cell? ⟨b, o, none⟩ = some v) : b < w.heap.size := by
  rcases Nat.lt_or_ge b w.heap.size with h1 | h1
  · exact h1
  · unfold World.cell? at h
    rw [Array.getElem?_eq_none h1] at h
    cases h
set_option maxRecDepth 20000 in
set_option maxHeartbeats 8000000 in
theorem sortSet_any {w : World} {g o n c : Nat} (a : Option Addr) (D : List Value) (G : List (List Nv)) (hA : Blk 122 w g D) (ha : n = 0 ∨ a = some ⟨g, o, none⟩) (hn : G.flatten.length = n) (hnc : n ≤ c) (hD : (D.drop o).take (n * 8) = ndCells G.flatten) (hDl : o + n * 8 ≤ D.length) (hct : ∀ x ∈ G, ∃ z r, x = z :: r ∧ z.ct = x.length) (hsl : ∀ z ∈ G.flatten, Sl .u8 w z.s z.nd.1.d ∧ Sl .u8 w z.f z.nd.2) (hu : ∀ z ∈ G.flatten, U8s z.nd.1.d ∧ U8s z.nd.2) (hwn : ∀ x ∈ G, wN (ndsOf x)) (hn6 : n ≤ 65536) (hk6 : G.length ≤ 65536) :
    Calls Tryz.prog 101 #[.slice a n c] w fun e w' => e = .returned (.tuple #[]) ∧ ∃ G' : List (List Nv), G'.Perm G ∧ Srt G' ∧ Blk 122 w' g (D.take o ++ (ndCells G'.flatten ++ D.drop (o + n * 8))) ∧ Upd w w' g := by
  obtain ⟨k, hkk⟩ : ∃ k, G.length = k := ⟨_, rfl⟩
  have hgw : g < w.heap.size := hA.lt
  have HX : Hid (Blk 122 w g D ∧ G.flatten.length = n ∧ (D.drop o).take (n * 8) = ndCells G.flatten ∧ o + n * 8 ≤ D.length ∧ (∀ x ∈ G, ∃ z r, x = z :: r ∧ z.ct = x.length) ∧ (∀ z ∈ G.flatten, Sl .u8 w z.s z.nd.1.d ∧ Sl .u8 w z.f z.nd.2) ∧ (∀ z ∈ G.flatten, U8s z.nd.1.d ∧ U8s z.nd.2) ∧ (∀ x ∈ G, wN (ndsOf x)) ∧ G.length = k) := ⟨hA, hn, hD, hDl, hct, hsl, hu, hwn, hkk⟩
  have HND : Hid (∀ W, Below w.heap.size w W → 0 < G.length → ∀ x, NdS W (encN g o c G x) (gtN G x)) := fun W hW h0 x => nds_part (below_blk hW hgw hA) hn hnc hD (fun z hz => ⟨below_sl hW (hsl z hz).1, below_sl hW (hsl z hz).2⟩) h0 x
  have HSELF : Hid (D.take o ++ (ndCells G.flatten ++ D.drop (o + n * 8)) = D) := by
    show _ = _
    rw [← hD, ← List.drop_drop, List.take_append_drop, List.take_append_drop]
  have hk6' : k ≤ 65536 := by omega
  clear hA hn hD hDl hct hsl hu hwn hkk hk6
  go_enter Tryz.func101, Tryz.ntmps101
  go_wp2_with fail
  go_loopw [2, 3] (fun sv rv wr => ∃ (j : Nat) (a0 : Option Addr) (v2 : Value), v2 = sv ∧ rv = .slice a0 (n - posN G j) (c - posN G j) ∧ (posN G j < n → a0 = some ⟨g, o + posN G j * 8, none⟩) ∧ j ≤ k ∧ VRow 119 w.heap.size wr v2 ((List.range j).map (encN g o c G)) ∧ Below w.heap.size w wr) (fun _ rv _ => lnOf rv)
  case atStart => exact ⟨0, a, _, rfl, rfl, fun h => by rcases ha with h0 | h0; exact absurd h (by omega); rw [h0]; simp [posN], Nat.zero_le _, VRow.nil _ _ _, Below.refl _ _⟩
  case round =>
    obtain ⟨j, a0, v2, rfl, rfl, ha0, hj, hV, hbl⟩ := hrel
    obtain ⟨p, hp⟩ : ∃ p, posN G j = p := ⟨_, rfl⟩
    rw [hp] at ha0 ⊢
    have HV : Hid (VRow 119 w.heap.size wr v2 ((List.range j).map (encN g o c G)) ∧ Below w.heap.size w wr ∧ posN G j = p) := ⟨hV, hbl, hp⟩
    have hwr : w.heap.size ≤ wr.heap.size := hbl.size
    by_cases hlt : j < k
    · have hjG : j < G.length := by rw [HX.out.2.2.2.2.2.2.2.2]; exact hlt
      have h0G : 0 < G.length := by omega
      have hps := posN_succ hjG
      have hpl := posN_le G (j + 1)
      obtain ⟨z, r, hzr, hzc⟩ := HX.out.2.2.2.2.1 G[j] (List.getElem_mem _)
      obtain ⟨gl, hgl⟩ : ∃ gl, G[j].length = gl := ⟨_, rfl⟩
      have hgl0 : 0 < gl := by rw [← hgl, hzr]; simp
      rw [hps, hp, hgl, HX.out.2.1] at hpl
      rw [hp, hgl] at hps
      have hND := HND.out wr hbl h0G j
      have hen : encN g o c G j = .slice (some ⟨g, o + p * 8, none⟩) gl (c - p) := by unfold encN; rw [if_pos hjG, gtN_at hjG, hp, hgl]
      rw [hen, gtN_at hjG] at hND
      obtain ⟨b', o', _, _, _, _, _, _, hbo, _, _, _, q7, -, -⟩ := hND.at (i := 0) (by omega)
      cases hbo
      rw [Nat.zero_mul, Nat.add_zero] at q7
      have hz0 : (G[j][0]'(by omega)).ct = gl := by
        have : G[j][0]'(by omega) = z := by simp only [hzr, List.getElem_cons_zero]
        rw [this, hzc, hgl]
      rw [hz0] at q7
      have hpn : p < n := by omega
      obtain rfl := ha0 hpn
      obtain ⟨rl, hrl⟩ : ∃ rl, n - p = rl := ⟨_, rfl⟩
      obtain ⟨rc, hrc⟩ : ∃ rc, c - p = rc := ⟨_, rfl⟩
      rw [hrl, hrc]
      rw [hrc] at hen
      obtain ⟨a', ha'⟩ : ∃ a' : Option Addr, (if rc = gl then some ⟨g, o + p * 8, none⟩ else some ⟨g, o + p * 8 + gl * 8, none⟩) = a' := ⟨_, rfl⟩
      have HR : Hid (n - p = rl ∧ c - p = rc ∧ posN G (j + 1) = p + gl ∧ encN g o c G j = .slice (some ⟨g, o + p * 8, none⟩) gl rc) := ⟨hrl, hrc, hps, hen⟩
      have h1 : (0 : Int) < (rl : Int) := by omega
      have h1n : 0 < rl := by omega
      have h2 : (gl : Int) ≤ (rl : Int) := by omega
      have h3 : (gl : Int) ≤ (rc : Int) := by omega
      have h3n : gl ≤ rc := by omega
      have h4 : gl ≤ rl := by omega
      have HA' : Hid (p + gl < n → a' = some ⟨g, o + (p + gl) * 8, none⟩) := fun h => by
        rw [← ha', if_neg (by omega)]
        congr 2
        omega
      have hgr : g < wr.heap.size := Nat.lt_of_lt_of_le hgw hwr
      clear hV hbl hp hps hpl hzr hzc hgl hND hen hz0 hrl hrc ha0
      go_upto_region 3 with (at_builtin; refine wpList_apv rfl (.tmp 14) (.tmp 21) 199 199 rfl (.slice none 0 0) rfl 119 24 Tryz.undR Tryz.infoR (by decide) w.heap.size _ ((List.range j).map (encN g o c G)) rfl (HV.out.1.alloc _) _ [.slice (some ⟨g, o + p * 8, none⟩) gl rc] rfl (src_m (T := 119) Tryz.undR 1 (blk_nw (by simp) rfl) rfl (by intro u hu; simp only [List.mem_singleton] at hu; subst hu; rfl)) (by simp; omega) (by simp; omega) ?_; intro v5 w5 hr5 hg5)
      have H5 : Hid (VRow 119 w.heap.size w5 v5 ((List.range (j + 1)).map (encN g o c G)) ∧ Below w.heap.size w w5) := by
        refine ⟨?_, (al2' HV.out.2.1).trans (hg5.below (HV.out.1.alloc _) (by simp; omega))⟩
        rw [List.range_succ, List.map_append, List.map_singleton, HR.out.2.2.2]
        exact hr5
      have q5 : w5.cell? ⟨g, o + p * 8 + 7, none⟩ = some (.int .i64 (gl : Int)) := by
        have h8 := below_blk H5.out.2 hgw HX.out.1
        have h9 := below_blk HV.out.2.1 hgw HX.out.1
        rw [h8.cell, ← h9.cell]; exact q7
      clear hr5 hg5 q7
      go_wp2
      go_roundw
      case rel => exact ⟨j + 1, a', _, rfl, by rw [HR.out.2.2.1, show n - (p + gl) = rl - gl by have := HR.out.1; omega, show c - (p + gl) = rc - gl by have := HR.out.2.1; omega], by rw [HR.out.2.2.1]; exact HA'.out, hlt, H5.out.1, H5.out.2⟩
      case measure => simp [lnOf]; omega
    · obtain rfl : j = k := by omega
      have hpn : p = n := by rw [← hp, posN_all G (by rw [HX.out.2.2.2.2.2.2.2.2]; exact Nat.le_refl _), HX.out.2.1]
      rw [hpn, Nat.sub_self]
      clear hp ha0
      by_cases hk0 : j = 0
      · subst hk0
        have hG0 : G = [] := List.eq_nil_of_length_eq_zero HX.out.2.2.2.2.2.2.2.2
        obtain ⟨va, vc, hv⟩ := hV.ne
        simp only [List.range_zero, List.map_nil, List.length_nil] at hv
        subst hv
        have HB : Hid (Below w.heap.size w wr) := hbl
        have HIS := Any.slices_IsSortedFunc_none Tryz.isSortedL va vc (.func (.func 120) #[] #[]) wr
        clear hV hbl
        go_wp2_with fail
        refine HIS.mono ?_
        rintro ev w5 ⟨rfl, rfl⟩
        go_wp2
        refine bodyPost_end (v := .tuple #[]) (results_none rfl _ _ _) rfl ⟨rfl, G, List.Perm.refl _, ?_, ?_, Below.upd HB.out⟩
        · rw [hG0]; exact List.Pairwise.nil
        · rw [HSELF.out]; exact below_blk HB.out hgw HX.out.1
      · have hjG : G.length = j := HX.out.2.2.2.2.2.2.2.2
        have h0G : 0 < G.length := by omega
        have hn0 : n ≠ 0 := by
          intro h0
          obtain ⟨z, r, hzr, _⟩ := HX.out.2.2.2.2.1 G[0] (List.getElem_mem _)
          have h1 := posN_succ h0G
          have h2 := posN_le G 1
          rw [HX.out.2.1, h0] at h2
          rw [hzr] at h1
          simp at h1
          omega
        obtain rfl := ha.resolve_left hn0
        rcases hV with ⟨_, h⟩ | ⟨blk, S, hv2, hB, hA2, hl, ht, hm⟩
        · exfalso
          have := congrArg List.length h
          simp at this
          omega
        rw [List.length_map, List.length_range] at hv2 hl ht
        subst hv2
        have HRW : Hid (RwI w.heap.size wr g o c G) := ⟨h0G, fun W hW => HND.out W (hbl.trans hW) h0G, fun x z hz => HX.out.2.2.2.2.2.2.1 z (mem_flat h0G hz), fun x => by
          have h1 := gtN_mem h0G x
          obtain ⟨i, hi, he⟩ := List.getElem_of_mem h1
          have h2 := posN_succ hi
          have h3 := posN_le G (i + 1)
          rw [HX.out.2.1] at h3
          rw [← he]; omega, HX.out.2.2.2.2.2.2.2.1⟩
        obtain ⟨cp, hcp⟩ : ∃ cp, S.length = cp := ⟨_, rfl⟩
        have HIS := IsSorted_any HRW.out hA2 hB (by rw [hjG]; exact ht) S.length (by omega)
        rw [hjG, hcp] at HIS
        rw [hcp]
        have HH : Hid (Below w.heap.size w wr ∧ w.heap.size ≤ blk ∧ G.length = j) := ⟨hbl, hB, hjG⟩
        have hIS : Hid (Calls Tryz.prog 119 #[.slice (some ⟨blk, 0, none⟩) j cp, .func (.func 120) #[] #[]] wr fun e w' => (∃ q, e = .returned (.bool q) ∧ (q = true → Srt G)) ∧ Below w.heap.size wr w' ∧ Go.Sort.Holds (encN g o c G) w' blk 0 (Array.range j)) := HIS
        have hjc : j ≤ cp := by omega
        clear HIS hbl hB hA2 hl ht hm hcp
        go_wp2_with fail
        refine hIS.out.mono ?_
        rintro ev w5 ⟨⟨q, rfl, hq⟩, hb5, hH5⟩
        have H5 : Hid (Below w.heap.size w w5 ∧ Go.Sort.Holds (encN g o c G) w5 blk 0 (Array.range j) ∧ (q = true → Srt G) ∧ Below w.heap.size wr w5) := ⟨HH.out.1.trans hb5, hH5, hq, hb5⟩
        clear hb5 hH5 hq
        cases q with
        | true =>
          go_wp2
          refine bodyPost_end (v := .tuple #[]) (results_none rfl _ _ _) rfl ⟨rfl, G, List.Perm.refl _, H5.out.2.2.1 (by trivial), ?_, Below.upd H5.out.1⟩
          rw [HSELF.out]; exact below_blk H5.out.1 hgw HX.out.1
        | false =>
          have hb5l : blk < w5.heap.size := by
            have h1 := (H5.out.2.1 0 (by simp; omega)).1
            exact cellLt h1
          have hSO := Sort_any (w := w5) (HRW.out.mono H5.out.2.2.2 (Nat.le_refl _)) (by rw [HH.out.2.2]; exact H5.out.2.1) hb5l HH.out.2.1 cp (by omega)
          rw [HH.out.2.2] at hSO
          have HSO : Hid (Calls Tryz.prog 121 #[.slice (some ⟨blk, 0, none⟩) j cp, .func (.func 120) #[] #[]] w5 fun e w' => e = .returned (.tuple #[]) ∧ ∃ E : List Nat, E.length = j ∧ (E.map (gtN G)).Perm G ∧ Srt (E.map (gtN G)) ∧ Below w.heap.size w5 w' ∧ blk < w'.heap.size ∧ ∀ i (hi : i < E.length), w'.cell? ⟨blk, i, none⟩ = some (encN g o c G E[i])) := hSO
          clear hSO
          go_wp2_with fail
          refine HSO.out.mono ?_
          rintro ev w6 ⟨rfl, E, hE1, hE2, hE3, hE4, hE5, hE6⟩
          have hb6 : Below w.heap.size w w6 := H5.out.1.trans hE4
          have hfl : (E.map (gtN G)).flatten.length = n := by rw [hE2.flatten.length_eq, HX.out.2.1]
          have hCC := Concat_any (w := w6) (.slice (some ⟨blk, 0, none⟩) j cp) (E.map (encN g o c G)) (E.map (gtN G)) ⟨_, _, by rw [List.length_map, hE1], by rw [List.length_map, hE1]; exact hjc, .inr ⟨blk, 0, rfl, hE5, fun i hi => by rw [List.length_map] at hi; rw [Nat.zero_add, hE6 i hi]; simp [hi]⟩⟩ (by simp) (fun i h h' => by simp only [List.getElem_map]; exact HND.out w6 hb6 h0G _) (by rw [hfl]; exact hn6) (by rw [List.length_map, hE1]; omega)
          rw [hfl] at hCC
          have HCC : Hid (Calls Tryz.prog 122 #[.slice (some ⟨blk, 0, none⟩) j cp] w6 fun e w' => (∃ r, e = .returned r ∧ MRow 8 122 w6.heap.size w' r n (ndCells (E.map (gtN G)).flatten)) ∧ Below w6.heap.size w6 w') := hCC
          have H6 : Hid (Below w.heap.size w w6 ∧ (E.map (gtN G)).Perm G ∧ Srt (E.map (gtN G))) := ⟨hb6, hE2, hE3⟩
          clear hCC hb6 hE1 hE2 hE3 hE4 hE5 hE6 hfl
          go_wp2_with fail
          refine HCC.out.mono ?_
          rintro ev w7 ⟨⟨r, rfl, hr⟩, hb7⟩
          have hb7w : Below w.heap.size w w7 := below_via H6.out.1 hb7 (Nat.le_refl _)
          have hone : ∀ u ∈ ndCells (E.map (gtN G)).flatten, u.oneCell' = true := by
            intro u hu
            unfold ndCells at hu
            obtain ⟨z, hz, hu⟩ := List.mem_flatMap.1 hu
            have hz' : z ∈ G.flatten := (H6.out.2.1.flatten.mem_iff).1 hz
            obtain ⟨⟨_, _, h1, _⟩, ⟨_, _, h2, _⟩⟩ := HX.out.2.2.2.2.2.1 z hz'
            exact cellN_one z (by rw [h1]; rfl) (by rw [h2]; rfl) u hu
          obtain ⟨ra, rc, hrv⟩ := hr.ne
          have HR7 : Hid (Src Tryz.prog 8 119 r n (ndCells (E.map (gtN G)).flatten) w7 ∧ Below w.heap.size w w7 ∧ Blk 122 w7 g D) := ⟨src_mrow Tryz.undN hr hone, hb7w, below_blk hb7w hgw HX.out.1⟩
          clear hr hb7 hone hb7w
          subst hrv
          go_wp2_with (refine wpList_cpm rfl (.tmp 28) (.tmp 30) 119 rfl 8 122 Tryz.undN Tryz.sizeN g o n c 122 D _ HR7.out.2.2 rfl _ rfl HR7.out.1 ⟨_, _, rfl⟩ HX.out.2.2.2.1 ?_; intro w9 hB9 hu9)
          refine bodyPost_end (v := .tuple #[]) (results_none rfl _ _ _) rfl ⟨rfl, _, H6.out.2.1, H6.out.2.2, hB9, (Below.upd HR7.out.2.1).trans hu9⟩
end Go.Proofs.YtefebamomdcaaaaGreatDoor
