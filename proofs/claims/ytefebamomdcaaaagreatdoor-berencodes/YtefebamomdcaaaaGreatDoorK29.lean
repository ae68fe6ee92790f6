/-
  Ber: slices.Grow of nothing, slices.Concat, copy: at nodes.
-/
import Derived.Lib.AppendZeros
import Derived.Test.YtefebamomdcaaaaGreatDoorK28
namespace Go.Proofs.YtefebamomdcaaaaGreatDoor
open Go.RowKit
theorem grown_run (w : World) (n : Nat) (h0 : 0 < n) (hn : n ≤ 100000) (ty : TypeId) : ∃ c S w', (Builtin.append_ #[119, 3] ty #[.slice none 0 0, .int .i64 n]).run Tryz.prog w = .ok (.slice (some ⟨w.heap.size, 0, none⟩) n c) w' ∧ Blk 122 w' w.heap.size S ∧ S.length = c * 8 ∧ n ≤ c ∧ c ≤ maxLen ∧ Below w.heap.size w w' := by
  obtain ⟨i, hi, he⟩ := Option.map_eq_some_iff.1 Tryz.infoN
  simp only [Prod.mk.injEq] at he
  obtain ⟨hz, hs, hby⟩ := he
  have h := Lib.run_append_nil_zeros (P := Tryz.prog) w 119 3 ty 122 i (.agg zN.toArray) .i64 .i64 Tryz.undN (by kernel_rfl) hi hz n h0 (by omega) (by omega) (by rw [hby]; omega)
  have hge := grownCap_ge w n 0 122
  have hcm : grownCap w n 0 122 ≤ maxLen := grownCap_le_maxLen w _ 0 122 (by unfold maxLen; omega)
  obtain ⟨C, hC⟩ : ∃ C, grownCap w n 0 122 = n + C := ⟨_, (Nat.add_sub_of_le hge).symm⟩
  rw [hC, Nat.add_sub_cancel_left] at h
  rw [hC] at hcm
  refine ⟨n + C, _, _, h, blk_nw (w := w.drew) rfl (toArray_of_toList rfl), ?_, by omega, hcm, (Below.refl _ _).drew.alloc (Nat.le_refl _) _⟩
  simp only [Builtin.zeroCells, Value.cells, Array.toList_append, List.length_append, Array.length_toList, Array.size_map, Array.size_range]
  show n * 8 + C * 8 = (n + C) * 8
  omega
set_option maxHeartbeats 2000000 in
theorem GrowN_any {w : World} (n : Nat) (hn : n ≤ 100000) : Calls Tryz.prog 134 #[.slice none 0 0, .int .i64 n] w fun e w' => (∃ v, e = .returned v ∧ MRow 8 122 w.heap.size w' v 0 []) ∧ Below w.heap.size w w' := by
  have g1 : decide ((n : Int) < 0) = false := by simp
  by_cases h0 : 0 < n
  · obtain ⟨c, S, w1, hap, hA, hS, hnc, hm, hb⟩ := grown_run w n h0 hn 119
    have H1 : Hid (Blk 122 w1 w.heap.size S ∧ S.length = c * 8 ∧ c ≤ maxLen ∧ Below w.heap.size w w1) := ⟨hA, hS, hm, hb⟩
    have g0 : decide (0 < (n : Int)) = true := by simp; omega
    clear hA hm hb hS
    go_enter Tryz.func134, Tryz.ntmps134
    go_wp2_with (at_builtin; refine Lib.wpList_append_run _ rfl (.tmp 20) (.tmp 21) 119 3 rfl _ _ rfl rfl _ _ hap ?_)
    go_ret
    exact ⟨⟨_, rfl, rfl, .inr ⟨w.heap.size, S, c, rfl, Nat.le_refl _, H1.out.1, H1.out.2.1, Nat.zero_le _, by simp, H1.out.2.2.1⟩⟩, H1.out.2.2.2⟩
  · obtain rfl : n = 0 := by omega
    clear g1 h0
    go_enter Tryz.func134, Tryz.ntmps134
    go_wp2
    go_ret
    exact ⟨⟨_, rfl, MRow.nil _ _ _ _⟩, Below.refl _ _⟩
/-- Rows of nodes, as an append's source. -/
theorem cellN_one (z : Nv) (hs : z.s.oneCell' = true) (hf : z.f.oneCell' = true) : ∀ u ∈ cellN z, u.oneCell' = true := by
  intro u hu
  unfold cellN at hu
  simp only [List.mem_cons, List.not_mem_nil, or_false] at hu
  rcases hu with rfl | rfl | rfl | rfl | rfl | rfl | rfl | rfl
  · rfl
  · rfl
  · rfl
  · rfl
  · exact hs
  · exact hf
  · rfl
  · rfl
theorem NdS.one {w : World} {v : Value} {Z : List Nv} (h : NdS w v Z) : ∀ u ∈ ndCells Z, u.oneCell' = true := by
  obtain ⟨_, _, _, _, _, h5⟩ := h
  intro u hu
  unfold ndCells at hu
  obtain ⟨z, hz, hu⟩ := List.mem_flatMap.1 hu
  obtain ⟨⟨a, c, ha, _⟩, ⟨b, d, hb, _⟩⟩ := h5 z hz
  exact cellN_one z (by rw [ha]; rfl) (by rw [hb]; rfl) u hu
theorem src_nd {w : World} {v : Value} {Z : List Nv} (h : NdS w v Z) : Src Tryz.prog 8 119 v Z.length (ndCells Z) w := by
  have h1 := h.one
  obtain ⟨a, c, rfl, hc, h4, h5⟩ := h
  rcases h4 with rfl | ⟨b, off, rfl, hb, hcs⟩
  · cases a with
    | none => exact Src.ofNil w Tryz.undN c
    | some a => exact Src.ofSlice w Tryz.undN a 0 c [] (by simp) (by simp) (by simp)
  · refine Src.ofSlice w Tryz.undN _ _ _ _ (ndCells_len Z) (fun j u hj => ?_) h1
    have hl : j < Z.length * 8 := by have := (List.getElem?_eq_some_iff.1 hj).1; rwa [ndCells_len] at this
    have hadd : (⟨b, off, none⟩ : Addr).add j = ⟨b, off + j, none⟩ := by simp [Addr.add]
    rw [hadd, hcs j hl, hj]
/-- 'copy(dst, src)' of structs: both of one length, dst at a place of a block of its own. -/
theorem wpList_cpm {P : Program} {w : World} {ops : Array Oper} {rest : List Oper} {o : Oper} {a : Act} {Q : Exit → Act → World → Prop} (hgd : o.guard = none) (d s : Operand) (t : TypeId)
    (ho : o.op = .call { callee := .builtin .copy, args := #[d, s], argTypes := #[t, t] }) (m : Nat) (e : TypeId) (hu : P.underlying t = some (.slice e)) (hsz : (P.info? e).map (·.size) = some m)
    (g off n dCap : Nat) (T : TypeId) (D cs : List Value) (hA : Blk T w g D) (hd : a.eval d = .slice (some ⟨g, off, none⟩) n dCap) (v : Value) (hs : a.eval s = v) (hx : Src P m t v n cs w) (hv : ∃ sp sCap, v = .slice sp n sCap) (hfit : off + n * m ≤ D.length)
    (h : ∀ w', Blk T w' g (D.take off ++ (cs ++ D.drop (off + n * m))) → Upd w w' g → wpList P ops Q rest (a.put o.dst (goInt n)) w') :
    wpList P ops Q (o :: rest) a w := by
  obtain ⟨sp, sCap, rfl⟩ := hv
  obtain ⟨i0, hi0, hs0⟩ : ∃ i0, P.info? e = some i0 ∧ i0.size = m := by
    cases h : P.info? e with
    | none => rw [h] at hsz; cases hsz
    | some i0 => rw [h] at hsz; exact ⟨i0, rfl, by simpa using hsz⟩
  have hlen := hx.newsLen
  have hst := run_storeCells_at P g off T cs 0 D.toArray w hA (by simp only [Nat.add_zero, List.size_toArray]; omega) hx.one
  rw [Nat.add_zero] at hst
  have hrun : (Builtin.copy_ #[t, t] o.type #[.slice (some ⟨g, off, none⟩) n dCap, .slice sp n sCap]).run P w = .ok (goInt n) (w.setRow g (D.toArray.toList.take off ++ cs ++ D.toArray.toList.drop (off + cs.length)).toArray) := by
    simp [Builtin.copy_, run_underlying hu, sizeOf, typeInfo, hi0, hs0, hx.len, hx.cells, hst]
  refine wpList_plain hgd fun K hK => ?_
  unfold Oper.wp
  simp [execOp, ho, resolve, invoke, builtin, hd, hs, hrun, Result.andThen]
  refine hK _ _ (h _ ?_ ⟨rfl, rfl, rfl, by simp [World.setRow], fun k _ hk => setRow_other w g k _ (fun e => hk (by simp [e]))⟩)
  unfold Blk
  rw [setRow_heap w g _ _ T _ hA]
  simp [hlen]
end Go.Proofs.YtefebamomdcaaaaGreatDoor
/-
  Ber: slices.Concat at rows of nodes.
-/
namespace Go.Proofs.YtefebamomdcaaaaGreatDoor
open Go.RowKit
/-- A slice reads a row of values of one cell. -/
def VlS (w : World) (v : Value) (rs : List Value) : Prop :=
  ∃ a c, v = .slice a rs.length c ∧ rs.length ≤ c ∧ (rs = [] ∨ ∃ b off, a = some ⟨b, off, none⟩ ∧ b < w.heap.size ∧ ∀ i, i < rs.length → w.cell? ⟨b, off + i, none⟩ = rs[i]?)
theorem VlS.below {w w' : World} {v : Value} {rs : List Value} (h : VlS w v rs) (hb : Below w.heap.size w w') : VlS w' v rs := by
  obtain ⟨a, c, h1, h2, h3⟩ := h
  refine ⟨a, c, h1, h2, ?_⟩
  rcases h3 with h3 | ⟨b, off, h6, h7, h8⟩
  · exact .inl h3
  · exact .inr ⟨b, off, h6, Nat.lt_of_lt_of_le h7 hb.size, fun i hi => (hb.cell (p := ⟨b, off + i, none⟩) h7).trans (h8 i hi)⟩
theorem VlS.at {w : World} {a : Option Addr} {n c : Nat} {rs : List Value} (h : VlS w (.slice a n c) rs) {i : Nat} (hi : i < rs.length) : ∃ b off, a = some ⟨b, off, none⟩ ∧ w.cell? ⟨b, off + i, none⟩ = some rs[i] := by
  obtain ⟨a', c', h1, h2, h3⟩ := h
  rcases h3 with h3 | ⟨b, off, h6, h7, h8⟩
  · subst h3; simp at hi
  · simp only [Value.slice.injEq] at h1
    obtain ⟨rfl, _, _⟩ := h1
    exact ⟨b, off, h6, by rw [h8 i hi, List.getElem?_eq_getElem hi]⟩
theorem flat_take {G : List (List Nv)} {i : Nat} (h : i < G.length) : (G.take (i + 1)).flatten = (G.take i).flatten ++ G[i] := by
  rw [List.take_succ_eq_append_getElem h, List.flatten_append]
  simp
theorem flat_le (G : List (List Nv)) (i : Nat) : (G.take i).flatten.length ≤ G.flatten.length := by
  conv => rhs; rw [← List.take_append_drop i G, List.flatten_append, List.length_append]
  omega
set_option maxRecDepth 20000 in
set_option maxHeartbeats 4000000 in
theorem Concat_any {w : World} (v : Value) (rs : List Value) (G : List (List Nv)) (hv : VlS w v rs) (hl : rs.length = G.length) (hG : ∀ i (h : i < rs.length) (h' : i < G.length), NdS w rs[i] G[i]) (hn : G.flatten.length ≤ 65536) (hk : G.length ≤ 65536) :
    Calls Tryz.prog 122 #[v] w fun e w' => (∃ r, e = .returned r ∧ MRow 8 122 w.heap.size w' r G.flatten.length (ndCells G.flatten)) ∧ Below w.heap.size w w' := by
  obtain ⟨n, hnn⟩ : ∃ n, rs.length = n := ⟨_, rfl⟩
  obtain ⟨a, c, rfl⟩ : ∃ a c, v = .slice a n c := by obtain ⟨a, c, h, _⟩ := hv; exact ⟨a, c, by rw [h, hnn]⟩
  have HX : Hid (VlS w (.slice a n c) rs ∧ rs.length = n ∧ G.length = n ∧ (∀ i (h : i < rs.length) (h' : i < G.length), NdS w rs[i] G[i]) ∧ G.flatten.length ≤ 65536) := ⟨hv, hnn, by omega, hG, hn⟩
  obtain ⟨TT, hTT⟩ : ∃ TT, G.flatten.length = TT := ⟨_, rfl⟩
  have HT : Hid (G.flatten.length = TT) := hTT
  have hT6 : TT ≤ 65536 := by omega
  have hn6 : n ≤ 65536 := by omega
  rw [hTT]
  clear hv hl hG hn hk hnn hTT
  go_enter Tryz.func122, Tryz.ntmps122
  go_wp2_with fail
  go_loopw [3, 11] (fun sv iv wr => ∃ i A : Nat, sv = .int .i64 (A : Int) ∧ iv = .int .i64 (i : Int) ∧ i ≤ n ∧ (G.take i).flatten.length = A ∧ Below w.heap.size w wr) (fun _ iv _ => n - (intOf iv).toNat)
  case atStart => exact ⟨0, 0, rfl, rfl, Nat.zero_le _, rfl, Below.refl _ _⟩
  case round =>
    obtain ⟨i, A, rfl, rfl, hi, hA, hbl⟩ := hrel
    by_cases hlt : i < n
    · have hltI : (i : Int) < (n : Int) := by omega
      have hltn : i < n := hlt
      have hir : i < rs.length := by rw [HX.out.2.1]; exact hlt
      have hiG : i < G.length := by rw [HX.out.2.2.1]; exact hlt
      obtain ⟨b, off, rfl, q0⟩ := (HX.out.1.below hbl).at hir
      obtain ⟨ga, gc, hg, _⟩ := (HX.out.2.2.2.1 i hir hiG).len
      have hft := flat_take hiG
      have hle := flat_le G (i + 1)
      rw [hft, List.length_append, hA, HT.out] at hle
      obtain ⟨gl, hgl⟩ : ∃ gl, G[i].length = gl := ⟨_, rfl⟩
      rw [hgl] at hg hle
      rw [hg] at q0
      have HA : Hid ((G.take (i + 1)).flatten.length = A + gl ∧ Below w.heap.size w wr) := ⟨by rw [hft, List.length_append, hA, hgl], hbl⟩
      have e1 : decide ((A : Int) + (gl : Int) < 0) = false := by simp; omega
      clear hft hgl hg hA hbl
      go_wp2
      go_roundw
      case rel => exact ⟨i + 1, A + gl, by go_num, by go_num, hlt, HA.out.1, HA.out.2⟩
      case measure => simp [intOf]; omega
    · obtain rfl : i = n := by omega
      have hltI : ¬ (i : Int) < (i : Int) := by omega
      have hAT : A = TT := by rw [← hA, ← HT.out, List.take_of_length_le (by rw [HX.out.2.2.1]; exact Nat.le_refl _)]
      subst hAT
      have HB : Hid (Below w.heap.size w wr) := hbl
      clear hA hbl
      go_wp2_with fail
      refine (GrowN_any A (by omega)).mono ?_
      rintro ev w1 ⟨⟨r, rfl, hr1⟩, hb1⟩
      obtain ⟨wo, hwo⟩ : ∃ x, x = wr := ⟨_, rfl⟩
      subst hwo
      have hwz : w.heap.size ≤ wo.heap.size := HB.out.size
      have H1 : Hid (MRow 8 122 w.heap.size w1 r 0 [] ∧ Below w.heap.size w w1) := ⟨hr1.mono hwz, below_via HB.out hb1 (Nat.le_refl _)⟩
      clear hr1 hb1
      go_wp2_with fail
      go_loopw [6, 27] (fun rv iv wr => ∃ (j : Nat) (r0 : Value), r0 = rv ∧ iv = .int .i64 (j : Int) ∧ j ≤ i ∧ MRow 8 122 w.heap.size wr r0 (G.take j).flatten.length (ndCells (G.take j).flatten) ∧ Below w.heap.size w wr) (fun _ iv _ => i - (intOf iv).toNat)
      case atStart => exact ⟨0, _, rfl, rfl, Nat.zero_le _, H1.out.1, H1.out.2⟩
      case round =>
        obtain ⟨j, r0, rfl, rfl, hj, hr, hbl⟩ := hrel
        by_cases hlt2 : j < i
        · have hltJ : (j : Int) < (i : Int) := by omega
          have hjr : j < rs.length := by rw [HX.out.2.1]; exact hlt2
          have hjG : j < G.length := by rw [HX.out.2.2.1]; exact hlt2
          have hlt2n : j < i := hlt2
          obtain ⟨b, off, rfl, q0⟩ := (HX.out.1.below hbl).at hjr
          have hnd := (HX.out.2.2.2.1 j hjr hjG).below hbl
          obtain ⟨ga, gc, hg, _⟩ := hnd.len
          have hft := flat_take hjG
          have hle := flat_le G (j + 1)
          rw [hft, List.length_append, HT.out] at hle
          rw [hg] at q0 hnd
          obtain ⟨gl, hgl⟩ : ∃ gl, G[j].length = gl := ⟨_, rfl⟩
          have HN : Hid (Src Tryz.prog 8 119 (.slice ga gl gc) gl (ndCells G[j]) wr ∧ MRow 8 122 w.heap.size wr r0 (G.take j).flatten.length (ndCells (G.take j).flatten) ∧ Below w.heap.size w wr ∧ (G.take j).flatten.length + gl ≤ A ∧ (G.take (j + 1)).flatten = (G.take j).flatten ++ G[j] ∧ G[j].length = gl) := by
            have h1 := src_nd hnd
            rw [hgl] at h1 hle
            exact ⟨h1, hr, hbl, hle, hft, hgl⟩
          rw [hgl] at q0
          have hwr : w.heap.size ≤ wr.heap.size := hbl.size
          clear hg hgl hft hle hnd hr hbl
          go_upto_region 14 with (at_builtin; refine wpList_apm rfl (.tmp 31) (.tmp 32) 119 119 rfl 8 (.agg zN.toArray) rfl 122 96 Tryz.undN Tryz.infoN (by decide) w.heap.size _ _ _ rfl HN.out.2.1 _ gl (ndCells G[j]) rfl HN.out.1 (by have := HN.out.2.2.2.1; omega) hwr ?_; intro rv w5 hr5 hg5)
          have H5 : Hid (MRow 8 122 w.heap.size w5 rv (G.take (j + 1)).flatten.length (ndCells (G.take (j + 1)).flatten) ∧ Below w.heap.size w w5) := ⟨by rw [HN.out.2.2.2.2.1, List.length_append, HN.out.2.2.2.2.2, ndCells_app]; exact hr5, HN.out.2.2.1.trans (hg5.below HN.out.2.1 hwr)⟩
          clear hr5 hg5 q0
          go_wp2
          go_roundw
          case rel => exact ⟨j + 1, _, rfl, by go_num, hlt2, H5.out.1, H5.out.2⟩
          case measure => simp [intOf]; omega
        · obtain rfl : j = i := by omega
          have hltJ : ¬ (j : Int) < (j : Int) := by omega
          have H5 : Hid (MRow 8 122 w.heap.size wr r0 A (ndCells G.flatten) ∧ Below w.heap.size w wr) := by
            rw [List.take_of_length_le (by rw [HX.out.2.2.1]; exact Nat.le_refl _), HT.out] at hr
            exact ⟨hr, hbl⟩
          clear hr hbl
          go_wp2
          go_ret
          exact ⟨⟨_, rfl, H5.out.1⟩, H5.out.2⟩
end Go.Proofs.YtefebamomdcaaaaGreatDoor
