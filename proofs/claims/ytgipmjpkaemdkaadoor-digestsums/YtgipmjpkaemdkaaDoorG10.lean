/-
  Digest: a Hash in memory; copy into a block; Size, Block, and the method mix.
-/
import Derived.Test.YtgipmjpkaemdkaaDoorG9
namespace Go.Proofs.YtgipmjpkaemdkaaDoor
open Go.RowKit
theorem Tryd.und8 : Tryd.prog.underlying 25 = some (.slice 5) := by kernel_rfl
theorem Tryd.one8 : (Tryd.prog.info? 5).map (·.size) = some 1 := by kernel_rfl
theorem over_nil (cs : List Value) (o : Nat) : over cs o [] = cs := by simp [over]
/-- 'copy(dst, src)', dst at a place of a whole block. -/
theorem wpList_cpB {P : Program} {w : World} {ops : Array Oper} {rest : List Oper} {o : Oper} {a : Act} {Q : Exit → Act → World → Prop} (hgd : o.guard = none) (d s : Operand) (t : TypeId)
    (ho : o.op = .call { callee := .builtin .copy, args := #[d, s], argTypes := #[t, t] }) (k : IntKind) (e T : TypeId) (hu : P.underlying t = some (.slice e)) (hsz : (P.info? e).map (·.size) = some 1)
    (g off dLen dCap : Nat) (cs : List Value) (xs : List Int) (hA : Blk T w g cs) (v : Value) (hd : a.eval d = .slice (some ⟨g, off, none⟩) dLen dCap) (hs : a.eval s = v) (hx : Sl k w v xs)
    (n : Nat) (hn : n = Nat.min xs.length dLen) (hfit : off + n ≤ cs.length)
    (h : ∀ w', Blk T w' g (over cs off ((xs.take n).map (Value.int k))) → Upd w w' g → wpList P ops Q rest (a.put o.dst (goInt n)) w') :
    wpList P ops Q (o :: rest) a w := by
  obtain ⟨sp, sCap, rfl, _, hx⟩ := hx
  have hr' : n ≤ xs.length := by rw [hn]; exact Nat.min_le_left _ _
  have hlen : ((xs.take n).map (Value.int k)).length = n := by simp; omega
  by_cases h0 : n = 0
  · refine wpList_copy_nothing hgd d s t t ho e hu hsz _ sp dLen dCap xs.length sCap hd hs (by omega) ?_
    subst h0
    exact h w (by simpa [over_nil] using hA) (Upd.refl _ _)
  · rcases hx with rfl | ⟨b, ob, rfl, hb, hr⟩
    · simp at hn; omega
    · refine wpList_copy_own (P := P) hgd d s t t ho e hu hsz g off dLen dCap ⟨b, ob, none⟩ xs.length sCap hd hs _ T hA ((xs.take n).map (Value.int k)) (by rw [hlen, hn])
        (fun j u hj => ?_) (by simp only [hlen, List.size_toArray]; exact hfit) (fun u hu => by obtain ⟨x, _, rfl⟩ := List.mem_map.1 hu; rfl) ?_
      · have hjn : j < n := by rw [← hlen]; exact (List.getElem?_eq_some_iff.1 hj).1
        have hadd : (⟨b, ob, none⟩ : Addr).add j = ⟨b, ob + j, none⟩ := by simp [Addr.add]
        rw [hadd, hr j (by omega), ← hj]
        simp [hjn, show j < xs.length by omega]
      · rw [hlen]
        have e1 : (cs.toArray.toList.take off ++ ((xs.take n).map (Value.int k) ++ cs.toArray.toList.drop (off + n))) = over cs off ((xs.take n).map (Value.int k)) := by unfold over; rw [hlen]
        rw [e1]
        exact h _ (by unfold Blk; exact setRow_heap w g _ _ T _ hA) ⟨rfl, rfl, rfl, by simp [World.setRow], fun j _ hj => setRow_other w g j _ (fun e => hj (by simp [e]))⟩
/-- How many bytes a block has, and a digest. -/
def blk (alg : Int) : Nat := if alg = 1 then 64 else if alg = 2 then 64 else if alg = 3 then 128 else if alg = 4 then 128 else 0
def siz (alg : Int) : Nat := if alg = 1 then 20 else if alg = 2 then 32 else if alg = 3 then 48 else if alg = 4 then 64 else 0
def Alg (alg : Int) : Prop := alg = 1 ∨ alg = 2 ∨ alg = 3 ∨ alg = 4
theorem ShaBlock_any {w : World} (alg : Int) : Calls Tryd.prog 29 #[.int .i64 alg] w fun e w' => e = .returned (.int .i64 (blk alg)) ∧ w' = w := by
  unfold blk
  by_cases h1 : alg = 1
  · subst h1; go_enter Tryd.func29, Tryd.ntmps29; go_wp2; go_ret; exact ⟨rfl, rfl⟩
  by_cases h2 : alg = 2
  · subst h2; go_enter Tryd.func29, Tryd.ntmps29; go_wp2; go_ret; exact ⟨rfl, rfl⟩
  by_cases h3 : alg = 3
  · subst h3; go_enter Tryd.func29, Tryd.ntmps29; go_wp2; go_ret; exact ⟨rfl, rfl⟩
  by_cases h4 : alg = 4
  · subst h4; go_enter Tryd.func29, Tryd.ntmps29; go_wp2; go_ret; exact ⟨rfl, rfl⟩
  rw [if_neg h1, if_neg h2, if_neg h3, if_neg h4]
  go_enter Tryd.func29, Tryd.ntmps29; go_wp2; go_ret; exact ⟨rfl, rfl⟩
theorem ShaSize_any {w : World} (alg : Int) : Calls Tryd.prog 28 #[.int .i64 alg] w fun e w' => e = .returned (.int .i64 (siz alg)) ∧ w' = w := by
  unfold siz
  by_cases h1 : alg = 1
  · subst h1; go_enter Tryd.func28, Tryd.ntmps28; go_wp2; go_ret; exact ⟨rfl, rfl⟩
  by_cases h2 : alg = 2
  · subst h2; go_enter Tryd.func28, Tryd.ntmps28; go_wp2; go_ret; exact ⟨rfl, rfl⟩
  by_cases h3 : alg = 3
  · subst h3; go_enter Tryd.func28, Tryd.ntmps28; go_wp2; go_ret; exact ⟨rfl, rfl⟩
  by_cases h4 : alg = 4
  · subst h4; go_enter Tryd.func28, Tryd.ntmps28; go_wp2; go_ret; exact ⟨rfl, rfl⟩
  rw [if_neg h1, if_neg h2, if_neg h3, if_neg h4]
  go_enter Tryd.func28, Tryd.ntmps28; go_wp2; go_ret; exact ⟨rfl, rfl⟩
theorem Block_any {w : World} (alg : Int) : Calls Tryd.prog 19 #[.int .i64 alg] w fun e w' => e = .returned (.int .i64 (blk alg)) ∧ w' = w := by
  have HBl : Hid (∀ w' : World, Calls Tryd.prog 29 #[.int .i64 alg] w' fun e w'' => e = .returned (.int .i64 (blk alg)) ∧ w' = w'') := fun w' => (ShaBlock_any alg).mono fun _ _ h => ⟨h.1, h.2.symm⟩
  go_enter Tryd.func19, Tryd.ntmps19
  go_wp2_with (go_at_call 29; refine (HBl.out _).mono ?_; rintro e w' ⟨rfl, rfl⟩)
  go_ret
  exact ⟨rfl, rfl⟩
theorem Size_any {w : World} (alg : Int) : Calls Tryd.prog 17 #[.int .i64 alg] w fun e w' => e = .returned (.int .i64 (siz alg)) ∧ w' = w := by
  have HBl : Hid (∀ w' : World, Calls Tryd.prog 28 #[.int .i64 alg] w' fun e w'' => e = .returned (.int .i64 (siz alg)) ∧ w' = w'') := fun w' => (ShaSize_any alg).mono fun _ _ h => ⟨h.1, h.2.symm⟩
  go_enter Tryd.func17, Tryd.ntmps17
  go_wp2_with (go_at_call 28; refine (HBl.out _).mono ?_; rintro e w' ⟨rfl, rfl⟩)
  go_ret
  exact ⟨rfl, rfl⟩
/-- What a Hash holds. -/
structure Hs where
  alg : Int
  total : Nat
  words : R8
  wide : R8
  rest : List Int
structure Hs.ok (h : Hs) : Prop where
  words : h.words.ok U32
  wide : h.wide.ok U64
  len : h.rest.length = 128
  bytes : U8s h.rest
def Hs.cells (h : Hs) : List Value := .int .i64 h.alg :: .int .i64 h.total :: (h.words.list.map (Value.int .u32) ++ (h.wide.list.map (Value.int .u64) ++ h.rest.map (Value.int .u8)))
def Hs.mixed (h : Hs) (bs : List Int) : Hs :=
  if h.alg = 1 then { h with words := mx1 h.words bs } else if h.alg = 2 then { h with words := mx256 h.words bs } else { h with wide := mx512 h.wide bs }
variable {HT : TypeId}
theorem Hs.cells_len {h : Hs} (hl : h.rest.length = 128) : h.cells.length = 146 := by simp [Hs.cells, R8.list, hl]
theorem Hs.mixed_ok {h : Hs} (hk : h.ok) (bs : List Int) : (h.mixed bs).ok := by
  unfold Hs.mixed
  split
  · exact ⟨mx1_ok hk.words bs, hk.wide, hk.len, hk.bytes⟩
  · split
    · exact ⟨mx256_ok bs, hk.wide, hk.len, hk.bytes⟩
    · exact ⟨hk.words, mx512_ok bs, hk.len, hk.bytes⟩
theorem Hs.range_words (h : Hs) : (h.cells.drop 2).take (h.words.list.map (Value.int .u32)).length = h.words.list.map (Value.int .u32) := by
  simp [Hs.cells, R8.list]
theorem Hs.range_wide (h : Hs) : (h.cells.drop 10).take (h.wide.list.map (Value.int .u64)).length = h.wide.list.map (Value.int .u64) := by
  simp [Hs.cells, R8.list]
theorem Hs.over_words (h : Hs) (r : R8) : over h.cells 2 (r.list.map (Value.int .u32)) = { h with words := r }.cells := by
  simp [over, Hs.cells, R8.list]
theorem Hs.over_wide (h : Hs) (r : R8) : over h.cells 10 (r.list.map (Value.int .u64)) = { h with wide := r }.cells := by
  simp [over, Hs.cells, R8.list]
end Go.Proofs.YtgipmjpkaemdkaaDoor
