/-
  Ber: bytes.Compare; rows of nodes that are read.
-/
import Derived.Lib.Bytealg
import Derived.Lib.Bytes
import Derived.Test.YtefebamomdcaaaaGreatDoorK27
namespace Go.Proofs.YtefebamomdcaaaaGreatDoor
open Go.RowKit
theorem run_loadBytes {P : Program} {w : World} {b : Nat} : ∀ (d : List Int) (off : Nat) (acc : ByteArray), (∀ i, i < d.length → w.cell? ⟨b, off + i, none⟩ = some (.int .u8 (d.getD i 0))) → (Extern.Bytes.loadBytes ⟨b, off, none⟩ d.length acc).run P w = .ok ⟨acc.data ++ (Lib.bytesOf d).toArray⟩ w
  | [], off, acc, _ => by
    simp [Extern.Bytes.loadBytes, Lib.bytesOf]
  | x :: d, off, acc, h => by
    have h0 := h 0 (by simp)
    rw [Nat.add_zero] at h0
    have h0' : w.cell? ⟨b, off, none⟩ = some (.int .u8 x) := h0
    have ih := run_loadBytes (P := P) d (off + 1) (acc.push x.toNat.toUInt8) (fun i hi => by
      have := h (i + 1) (by simp; omega)
      rw [show off + 1 + i = off + (i + 1) by omega, this]
      rfl)
    have ha : (⟨b, off, none⟩ : Addr).add 1 = ⟨b, off + 1, none⟩ := rfl
    rw [List.length_cons, Extern.Bytes.loadBytes, Sem.run_bind]
    have hl : (load ⟨b, off, none⟩).run P w = .ok (.int .u8 x) w := by simp [go_sem, h0']
    rw [hl]
    simp only [Result.andThen_ok, ha]
    rw [ih]
    congr 1
    simp [Lib.bytesOf, ByteArray.push]
theorem run_bytesOf {P : Program} {w : World} {v : Value} {d : List Int} (h : Sl .u8 w v d) : (Extern.Bytes.bytesOf v).run P w = .ok ⟨(Lib.bytesOf d).toArray⟩ w := by
  obtain ⟨a, c, rfl, hc, h⟩ := h
  rcases h with rfl | ⟨b, off, rfl, hb, hr⟩
  · cases a with
    | none => simp [Extern.Bytes.bytesOf, Lib.bytesOf]; rfl
    | some a => simp [Extern.Bytes.bytesOf, Extern.Bytes.loadBytes, Lib.bytesOf]; rfl
  · rw [Extern.Bytes.bytesOf, run_loadBytes d off _ hr]
    congr 1
    simp
theorem cmpB_bytes : ∀ {X Y : List Int}, U8s X → U8s Y → Lib.compareBytes (Lib.bytesOf X) (Lib.bytesOf Y) = cmpB X Y
  | [], [], _, _ => rfl
  | [], _ :: _, _, _ => rfl
  | _ :: _, [], _, _ => rfl
  | x :: X, y :: Y, hX, hY => by
    have ux := hX x (List.mem_cons_self ..)
    have uy := hY y (List.mem_cons_self ..)
    unfold U8 at ux uy
    have ih := cmpB_bytes (X := X) (Y := Y) (fun z hz => hX z (List.mem_cons_of_mem _ hz)) (fun z hz => hY z (List.mem_cons_of_mem _ hz))
    have lt : ∀ {a b : Int}, 0 ≤ a → a < 256 → 0 ≤ b → b < 256 → (UInt8.ofNat a.toNat < UInt8.ofNat b.toNat ↔ a < b) := fun h1 h2 h3 h4 => by
      rw [UInt8.lt_iff_toNat_lt, UInt8.toNat_ofNat', UInt8.toNat_ofNat']
      omega
    unfold Lib.bytesOf at ih ⊢
    rw [List.map_cons, List.map_cons, Lib.compareBytes, cmpB, ih]
    by_cases h1 : x < y
    · rw [if_pos ((lt ux.1 ux.2 uy.1 uy.2).2 h1), if_pos h1]
    · rw [if_neg (fun h => h1 ((lt ux.1 ux.2 uy.1 uy.2).1 h)), if_neg h1]
      by_cases h2 : y < x
      · rw [if_pos ((lt uy.1 uy.2 ux.1 ux.2).2 h2), if_pos h2]
      · rw [if_neg (fun h => h2 ((lt uy.1 uy.2 ux.1 ux.2).1 h)), if_neg h2]
theorem run_cmp {P : Program} {w : World} {v u : Value} {X Y : List Int} (hX : Sl .u8 w v X) (hY : Sl .u8 w u Y) (uX : U8s X) (uY : U8s Y) : (Extern.BytealgCompare.compare #[v, u]).run P w = .ok (.int .i64 (cmpB X Y)) w := by
  change Sem.run P (do pure (goInt (Extern.BytealgCompare.cmp (← Extern.Bytes.bytesOf v) (← Extern.Bytes.bytesOf u)))) w = _
  rw [Sem.run_bind, run_bytesOf hX]
  simp only [Result.andThen_ok]
  rw [Sem.run_bind, run_bytesOf hY]
  simp only [Result.andThen_ok, Sem.run_pure]
  rw [Lib.cmp_eq]
  simp only []
  rw [cmpB_bytes uX uY]
  rfl
set_option maxHeartbeats 1000000 in
theorem Compare_any {w : World} (v u : Value) (X Y : List Int) (hX : Sl .u8 w v X) (hY : Sl .u8 w u Y) (uX : U8s X) (uY : U8s Y) : Calls Tryz.prog 131 #[v, u] w fun e w' => e = .returned (.int .i64 (cmpB X Y)) ∧ w' = w := by
  have HR : Hid (∀ W, W = w → (Extern.BytealgCompare.compare #[v, u]).run Tryz.prog W = .ok (.int .i64 (cmpB X Y)) W) := fun W h => by rw [h]; exact run_cmp hX hY uX uY
  obtain ⟨a, n, c, rfl⟩ : ∃ a n c, v = .slice a n c := by obtain ⟨a, c, h, _⟩ := hX; exact ⟨a, _, c, h⟩
  obtain ⟨a', n', c', rfl⟩ : ∃ a n c, u = .slice a n c := by obtain ⟨a, c, h, _⟩ := hY; exact ⟨a, _, c, h⟩
  obtain ⟨R, hR⟩ : ∃ R, cmpB X Y = R := ⟨_, rfl⟩
  rw [hR] at HR ⊢
  have xc := @run_callFunc_extern Tryz.prog 140 _ Extern.BytealgCompare.compare Tryz.func140 (by kernel_rfl) (by kernel_rfl) (by kernel_rfl) (by kernel_rfl)
  clear hX hY uX uY hR
  go_enter Tryz.func131, Tryz.ntmps131
  go_wp2
  rw [HR.out _ rfl]
  simp only [Result.andThen]
  rw [Oper.upon_value]
  go_wp2
  go_ret
  exact ⟨rfl, rfl⟩
/-- A slice reads a row of nodes. -/
def NdS (w : World) (v : Value) (Z : List Nv) : Prop :=
  ∃ a c, v = .slice a Z.length c ∧ Z.length ≤ c ∧ (Z = [] ∨ ∃ b off, a = some ⟨b, off, none⟩ ∧ b < w.heap.size ∧ ∀ i, i < Z.length * 8 → w.cell? ⟨b, off + i, none⟩ = (ndCells Z)[i]?) ∧ ∀ z ∈ Z, Sl .u8 w z.s z.nd.1.d ∧ Sl .u8 w z.f z.nd.2
theorem NdS.below {w w' : World} {v : Value} {Z : List Nv} (h : NdS w v Z) (hb : Below w.heap.size w w') : NdS w' v Z := by
  obtain ⟨a, c, h1, h2, h4, h5⟩ := h
  refine ⟨a, c, h1, h2, ?_, fun z hz => ⟨below_sl hb (h5 z hz).1, below_sl hb (h5 z hz).2⟩⟩
  rcases h4 with h4 | ⟨b, off, h6, h7, h8⟩
  · exact .inl h4
  · exact .inr ⟨b, off, h6, Nat.lt_of_lt_of_le h7 hb.size, fun i hi => (hb.cell (p := ⟨b, off + i, none⟩) h7).trans (h8 i hi)⟩
/-- The i-th one: its slices. -/
theorem NdS.at {w : World} {a : Option Addr} {n c : Nat} {Z : List Nv} (h : NdS w (.slice a n c) Z) {i : Nat} (hi : i < Z.length) :
    ∃ b off sa sm sk fa fm fk, a = some ⟨b, off, none⟩ ∧ b < w.heap.size ∧ w.cell? ⟨b, off + i * 8 + 4, none⟩ = some (.slice sa sm sk) ∧ w.cell? ⟨b, off + i * 8 + 5, none⟩ = some (.slice fa fm fk) ∧ w.cell? ⟨b, off + i * 8 + 7, none⟩ = some (.int .i64 (Z[i].ct : Int)) ∧ Sl .u8 w (.slice sa sm sk) Z[i].nd.1.d ∧ Sl .u8 w (.slice fa fm fk) Z[i].nd.2 := by
  obtain ⟨a', c', h1, h2, h4, h5⟩ := h
  rcases h4 with h4 | ⟨b, off, h6, h7, h8⟩
  · subst h4; simp at hi
  · simp only [Value.slice.injEq] at h1
    obtain ⟨rfl, _, _⟩ := h1
    obtain ⟨hs, hf⟩ := h5 Z[i] (List.getElem_mem _)
    have hs2 := hs
    have hf2 := hf
    obtain ⟨sa, sk, hsv, _⟩ := hs
    obtain ⟨fa, fk, hfv, _⟩ := hf
    have g : ∀ k, k < 8 → w.cell? ⟨b, off + i * 8 + k, none⟩ = (cellN Z[i])[k]? := fun k hk => by
      rw [← ndCells_at hi k hk, ← h8 (i * 8 + k) (by omega), Nat.add_assoc]
    refine ⟨b, off, sa, _, sk, fa, _, fk, h6, h7, ?_, ?_, ?_, by rw [← hsv]; exact hs2, by rw [← hfv]; exact hf2⟩
    · have := g 4 (by omega); simpa [cellN, hsv] using this
    · have := g 5 (by omega); simpa [cellN, hfv] using this
    · have := g 7 (by omega); simpa [cellN] using this
end Go.Proofs.YtefebamomdcaaaaGreatDoor
/-
  Ber: compare walked: two rows of nodes held against each other (mkb58.py).
-/
namespace Go.Proofs.YtefebamomdcaaaaGreatDoor
open Go.RowKit
theorem frC12_fff {ops : Array Oper} {V : Nat → Value} {t : Array Value} {d0 d1 d2 d3 d4 d5 d6 d7 d8 d9 d10 d11 : Nat} (hs : ops.size = 12) (h0 : dstOf ops 0 = some d0) (h1 : dstOf ops 1 = some d1) (h2 : dstOf ops 2 = some d2) (h3 : dstOf ops 3 = some d3) (h4 : dstOf ops 4 = some d4) (h5 : dstOf ops 5 = some d5) (h6 : dstOf ops 6 = some d6) (h7 : dstOf ops 7 = some d7) (h8 : dstOf ops 8 = some d8) (h9 : dstOf ops 9 = some d9) (h10 : dstOf ops 10 = some d10) (h11 : dstOf ops 11 = some d11) : frF ops V t ops.size = ((((((((((((t.setIfInBounds d0 (V 0)).setIfInBounds d1 (V 1)).setIfInBounds d2 (V 2)).setIfInBounds d3 (V 3)).setIfInBounds d4 (V 4)).setIfInBounds d5 (V 5)).setIfInBounds d6 (V 6)).setIfInBounds d7 (V 7)).setIfInBounds d8 (V 8)).setIfInBounds d9 (V 9)).setIfInBounds d10 (V 10)).setIfInBounds d11 (V 11)) := by
  rw [hs]
  simp only [frF, h0, h1, h2, h3, h4, h5, h6, h7, h8, h9, h10, h11]
theorem frC14_3fff {ops : Array Oper} {V : Nat → Value} {t : Array Value} {d0 d1 d2 d3 d4 d5 d6 d7 d8 d9 d10 d11 d12 d13 : Nat} (hs : ops.size = 14) (h0 : dstOf ops 0 = some d0) (h1 : dstOf ops 1 = some d1) (h2 : dstOf ops 2 = some d2) (h3 : dstOf ops 3 = some d3) (h4 : dstOf ops 4 = some d4) (h5 : dstOf ops 5 = some d5) (h6 : dstOf ops 6 = some d6) (h7 : dstOf ops 7 = some d7) (h8 : dstOf ops 8 = some d8) (h9 : dstOf ops 9 = some d9) (h10 : dstOf ops 10 = some d10) (h11 : dstOf ops 11 = some d11) (h12 : dstOf ops 12 = some d12) (h13 : dstOf ops 13 = some d13) : frF ops V t ops.size = ((((((((((((((t.setIfInBounds d0 (V 0)).setIfInBounds d1 (V 1)).setIfInBounds d2 (V 2)).setIfInBounds d3 (V 3)).setIfInBounds d4 (V 4)).setIfInBounds d5 (V 5)).setIfInBounds d6 (V 6)).setIfInBounds d7 (V 7)).setIfInBounds d8 (V 8)).setIfInBounds d9 (V 9)).setIfInBounds d10 (V 10)).setIfInBounds d11 (V 11)).setIfInBounds d12 (V 12)).setIfInBounds d13 (V 13)) := by
  rw [hs]
  simp only [frF, h0, h1, h2, h3, h4, h5, h6, h7, h8, h9, h10, h11, h12, h13]
theorem eg_bcmp (args : Array Value) (w : World) : (callFunc 131 args).run Tryz.prog w = .ok (.enter 131 args) w := by
  have g1 : ¬ Tryz.f131.name = "runtime.NumGoroutine" := by decide +kernel
  have g2 : Tryz.f131.body.isNone = false := by kernel_rfl
  have g3 : ¬ Tryz.f131.body = none := fun h => by rw [h] at g2; cases g2
  simp [go_sem, callFunc, Tryz.func131, g1, g3]
theorem drewN_below (w : World) (q : Nat) : Below w.heap.size w (w.drewN q) := below_drewN q (Below.refl _ _)
theorem cmpN_step {X Y : List Nv} {i : Nat} (h1 : i < X.length) (h2 : i < Y.length) : cmpN ((X.drop i).map (·.nd)) ((Y.drop i).map (·.nd)) = if cmpB X[i].nd.2 Y[i].nd.2 ≠ 0 then cmpB X[i].nd.2 Y[i].nd.2 else if cmpB X[i].nd.1.d Y[i].nd.1.d ≠ 0 then cmpB X[i].nd.1.d Y[i].nd.1.d else cmpN ((X.drop (i + 1)).map (·.nd)) ((Y.drop (i + 1)).map (·.nd)) := by
  rw [List.drop_eq_getElem_cons h1, List.drop_eq_getElem_cons h2]
  simp only [List.map_cons, cmpN]
theorem cmpN_end {X Y : List Nv} {i : Nat} (h : X.length ≤ i ∨ Y.length ≤ i) : cmpN ((X.drop i).map (·.nd)) ((Y.drop i).map (·.nd)) = 0 := by
  rcases h with h | h
  · rw [List.drop_of_length_le h]; rfl
  · rw [List.drop_of_length_le h]
    cases (X.drop i) <;> rfl
theorem NdS.len {w : World} {v : Value} {Z : List Nv} (h : NdS w v Z) : ∃ a c, v = .slice a Z.length c ∧ Z.length ≤ c := by
  obtain ⟨a, c, h1, h2, _⟩ := h
  exact ⟨a, c, h1, h2⟩
set_option maxRecDepth 20000 in
set_option maxHeartbeats 4000000 in
theorem compare_any {w : World} (x y : Value) (X Y : List Nv) (hX : NdS w x X) (hY : NdS w y Y) (uX : ∀ z ∈ X, U8s z.nd.1.d ∧ U8s z.nd.2) (uY : ∀ z ∈ Y, U8s z.nd.1.d ∧ U8s z.nd.2) (hn : X.length ≤ 65536) (hm : Y.length ≤ 65536) :
    Calls Tryz.prog 120 #[x, y] w fun e w' => e = .returned (.int .i64 (cmpN (X.map (·.nd)) (Y.map (·.nd)))) ∧ ∃ q, w' = w.drewN q := by
  obtain ⟨a1, c1, rfl, hc1⟩ := hX.len
  obtain ⟨a2, c2, rfl, hc2⟩ := hY.len
  obtain ⟨n, hnn⟩ : ∃ n, X.length = n := ⟨_, rfl⟩
  obtain ⟨m, hmm⟩ : ∃ m, Y.length = m := ⟨_, rfl⟩
  obtain ⟨O, hO⟩ : ∃ O, cmpN (X.map (·.nd)) (Y.map (·.nd)) = O := ⟨_, rfl⟩
  rw [hnn] at hX hn
  rw [hmm] at hY hm
  rw [hO, hnn, hmm]
  have HX : Hid (NdS w (.slice a1 n c1) X ∧ NdS w (.slice a2 m c2) Y ∧ (∀ z ∈ X, U8s z.nd.1.d ∧ U8s z.nd.2) ∧ (∀ z ∈ Y, U8s z.nd.1.d ∧ U8s z.nd.2) ∧ X.length = n ∧ Y.length = m) := ⟨hX, hY, uX, uY, hnn, hmm⟩
  have HO : Hid (cmpN (X.map (·.nd)) (Y.map (·.nd)) = O) := hO
  obtain ⟨N, hN⟩ : ∃ N, min n m = N := ⟨_, rfl⟩
  have hNn : N ≤ n := by omega
  have hNm : N ≤ m := by omega
  have HN : Hid (N = n ∨ N = m) := by show _ ∨ _; omega
  have hN6 : N ≤ 65536 := by omega
  have HNM : Hid (min n m = N) := hN
  clear hX hY uX uY hnn hmm hO hc1 hc2 hN
  by_cases hle : (m : Int) < (n : Int)
  · go_enter Tryz.func120, Tryz.ntmps120
    go_wp2_with fail
    rw [show (m : Int) = (N : Int) by have := HNM.out; omega]
    go_loopw [13] (fun iv wr => ∃ i : Nat, iv = .int .i64 (i : Int) ∧ i ≤ N ∧ (∃ q, wr = w.drewN q) ∧ cmpN ((X.drop i).map (·.nd)) ((Y.drop i).map (·.nd)) = O) (fun iv _ => N - (intOf iv).toNat)
    case atStart => exact ⟨0, rfl, Nat.zero_le _, ⟨0, rfl⟩, HO.out⟩
    case round =>
      obtain ⟨i, rfl, hi, hq, hC⟩ := hrel
      have HQ : Hid (∃ q, wr = w.drewN q) := hq
      by_cases hlt : i < N
      · have hltI : (i : Int) < (N : Int) := by omega
        have hin : i < n := by omega
        have him : i < m := by omega
        have hiX : i < X.length := by rw [HX.out.2.2.2.2.1]; exact hin
        have hiY : i < Y.length := by rw [HX.out.2.2.2.2.2]; exact him
        have hbW : Below w.heap.size w wr := by obtain ⟨q, rfl⟩ := hq; exact drewN_below w q
        obtain ⟨b1, o1, sa, sm, sk, fa, fm, fk, ha1, hb1, s4, s5, -, hsX, hfX⟩ := (HX.out.1.below hbW).at hiX
        obtain ⟨b2, o2, ta, tm, tk, ga, gm, gk, ha2, hb2, t4, t5, -, hsY, hfY⟩ := (HX.out.2.1.below hbW).at hiY
        subst ha1
        subst ha2
        have uX := HX.out.2.2.1 X[i] (List.getElem_mem _)
        have uY := HX.out.2.2.2.1 Y[i] (List.getElem_mem _)
        have hst := cmpN_step hiX hiY
        obtain ⟨C1, hC1⟩ : ∃ C1, cmpB X[i].nd.2 Y[i].nd.2 = C1 := ⟨_, rfl⟩
        obtain ⟨C2, hC2⟩ : ∃ C2, cmpB X[i].nd.1.d Y[i].nd.1.d = C2 := ⟨_, rfl⟩
        have bel : ∀ W : World, (∃ q, W = wr.drewN q) → Below wr.heap.size wr W := fun W h => by obtain ⟨q, rfl⟩ := h; exact drewN_below wr q
        have HCX : Hid (∀ W : World, (∃ q, W = wr.drewN q) → W.cell? ⟨b1, o1 + i * 8 + 5, none⟩ = some (.slice fa fm fk) ∧ W.cell? ⟨b1, o1 + i * 8 + 4, none⟩ = some (.slice sa sm sk)) := fun W h => ⟨((bel W h).cell (p := ⟨b1, o1 + i * 8 + 5, none⟩) hb1).trans s5, ((bel W h).cell (p := ⟨b1, o1 + i * 8 + 4, none⟩) hb1).trans s4⟩
        have HCY : Hid (∀ W : World, (∃ q, W = wr.drewN q) → W.cell? ⟨b2, o2 + i * 8 + 5, none⟩ = some (.slice ga gm gk) ∧ W.cell? ⟨b2, o2 + i * 8 + 4, none⟩ = some (.slice ta tm tk)) := fun W h => ⟨((bel W h).cell (p := ⟨b2, o2 + i * 8 + 5, none⟩) hb2).trans t5, ((bel W h).cell (p := ⟨b2, o2 + i * 8 + 4, none⟩) hb2).trans t4⟩
        have HC1 : Hid (∀ W : World, (∃ q, W = wr.drewN q) → Calls Tryz.prog 131 #[.slice fa fm fk, .slice ga gm gk] W fun e w' => e = .returned (.int .i64 C1) ∧ w' = W) := fun W h => by have := Compare_any (w := W) _ _ _ _ (below_sl (bel W h) hfX) (below_sl (bel W h) hfY) uX.2 uY.2; rwa [hC1] at this
        have HC2 : Hid (∀ W : World, (∃ q, W = wr.drewN q) → Calls Tryz.prog 131 #[.slice sa sm sk, .slice ta tm tk] W fun e w' => e = .returned (.int .i64 C2) ∧ w' = W) := fun W h => by have := Compare_any (w := W) _ _ _ _ (below_sl (bel W h) hsX) (below_sl (bel W h) hsY) uX.1 uY.1; rwa [hC2] at this
        rw [hC1, hC2, hC] at hst
        have HST : Hid (O = if C1 ≠ 0 then C1 else if C2 ≠ 0 then C2 else cmpN ((X.drop (i + 1)).map (·.nd)) ((Y.drop (i + 1)).map (·.nd))) := hst
        clear hC hq hsX hfX hsY hfY uX uY hst hC1 hC2 bel s4 s5 t4 t5 hbW
        go_upto_region 4 with (fail)
        refine wp_region_still (fun k => ([.slice (some ⟨b1, o1, none⟩) n c1, .int .i64 (i : Int), .pointer (some ⟨b1, o1 + i * 8, none⟩), .pointer (some ⟨b1, o1 + i * 8 + 5, none⟩), .slice fa fm fk, .slice (some ⟨b2, o2, none⟩) m c2, .int .i64 (i : Int), .pointer (some ⟨b2, o2 + i * 8, none⟩), .pointer (some ⟨b2, o2 + i * 8 + 5, none⟩), .slice ga gm gk, .int .i64 C1, .int .i64 C1] : List Value).getD k undef) (fun W => ∃ q, W = wr.drewN q) rfl (by decide +kernel) (show dstB _ 47 = true by decide +kernel) ⟨1, rfl⟩ (fun W hS => ?_) (fun i L W a hi hno hdep hv hn h0 hS => ?_)
        rotate_left
        · replace hi : i < 12 := hi
          obtain rfl | rfl | rfl | rfl | rfl | rfl | rfl | rfl | rfl | rfl | rfl | rfl : i = 0 ∨ i = 1 ∨ i = 2 ∨ i = 3 ∨ i = 4 ∨ i = 5 ∨ i = 6 ∨ i = 7 ∨ i = 8 ∨ i = 9 ∨ i = 10 ∨ i = 11 := by omega
          · have x0 : a.eval (.tmp 0) = .slice (some ⟨b1, o1, none⟩) n c1 := (h0 0 (by decide +kernel)).trans rfl
            exact rg_val rfl (wn_any rfl) (run_mv rfl x0) hS
          · have x5 : a.eval (.tmp 5) = .int .i64 (i : Int) := (h0 5 (by decide +kernel)).trans rfl
            exact rg_val rfl (wn_any rfl) (run_mv rfl x5) hS
          · have e16 : a.eval (.tmp 16) = .slice (some ⟨b1, o1, none⟩) n c1 := hv 0 _ (show 0 < 12 by decide) (hdep 0 (by decide +kernel)) rfl
            have e17 : a.eval (.tmp 17) = .int .i64 (i : Int) := hv 1 _ (show 1 < 12 by decide) (hdep 1 (by decide +kernel)) rfl
            exact rg_val rfl (wn_any rfl) (run_ia (v := .pointer (some ⟨b1, o1 + i * 8, none⟩)) rfl e16 e17 (by simp [go_sem, Instr.indexAt, hin])) hS
          · have e18 : a.eval (.tmp 18) = .pointer (some ⟨b1, o1 + i * 8, none⟩) := hv 2 _ (show 2 < 12 by decide) (hdep 2 (by decide +kernel)) rfl
            exact rg_val rfl (wn_any rfl) (run_fa (v := .pointer (some ⟨b1, o1 + i * 8 + 5, none⟩)) rfl e18 (by simp [go_sem, Instr.fieldAt])) hS
          · have e19 : a.eval (.tmp 19) = .pointer (some ⟨b1, o1 + i * 8 + 5, none⟩) := hv 3 _ (show 3 < 12 by decide) (hdep 3 (by decide +kernel)) rfl
            exact rg_val rfl (wn_any rfl) (run_ld (v := .slice fa fm fk) rfl e19 (by simp [go_sem, Instr.loadAt, (HCX.out W hS).1])) hS
          · have x1 : a.eval (.tmp 1) = .slice (some ⟨b2, o2, none⟩) m c2 := (h0 1 (by decide +kernel)).trans rfl
            exact rg_val rfl (wn_any rfl) (run_mv rfl x1) hS
          · have x5 : a.eval (.tmp 5) = .int .i64 (i : Int) := (h0 5 (by decide +kernel)).trans rfl
            exact rg_val rfl (wn_any rfl) (run_mv rfl x5) hS
          · have e21 : a.eval (.tmp 21) = .slice (some ⟨b2, o2, none⟩) m c2 := hv 5 _ (show 5 < 12 by decide) (hdep 5 (by decide +kernel)) rfl
            have e22 : a.eval (.tmp 22) = .int .i64 (i : Int) := hv 6 _ (show 6 < 12 by decide) (hdep 6 (by decide +kernel)) rfl
            exact rg_val rfl (wn_any rfl) (run_ia (v := .pointer (some ⟨b2, o2 + i * 8, none⟩)) rfl e21 e22 (by simp [go_sem, Instr.indexAt, him])) hS
          · have e23 : a.eval (.tmp 23) = .pointer (some ⟨b2, o2 + i * 8, none⟩) := hv 7 _ (show 7 < 12 by decide) (hdep 7 (by decide +kernel)) rfl
            exact rg_val rfl (wn_any rfl) (run_fa (v := .pointer (some ⟨b2, o2 + i * 8 + 5, none⟩)) rfl e23 (by simp [go_sem, Instr.fieldAt])) hS
          · have e24 : a.eval (.tmp 24) = .pointer (some ⟨b2, o2 + i * 8 + 5, none⟩) := hv 8 _ (show 8 < 12 by decide) (hdep 8 (by decide +kernel)) rfl
            exact rg_val rfl (wn_any rfl) (run_ld (v := .slice ga gm gk) rfl e24 (by simp [go_sem, Instr.loadAt, (HCY.out W hS).1])) hS
          · have e20 : a.eval (.tmp 20) = .slice fa fm fk := hv 4 _ (show 4 < 12 by decide) (hdep 4 (by decide +kernel)) rfl
            have e25 : a.eval (.tmp 25) = .slice ga gm gk := hv 9 _ (show 9 < 12 by decide) (hdep 9 (by decide +kernel)) rfl
            exact rg_call rfl (wn_any rfl) (run_cl2 rfl e20 e25 eg_bcmp) (R := fun w' => w' = W) (HC1.out W hS) (fun w' h => by rw [h]; exact hS)
          · have e26 : a.eval (.tmp 26) = .int .i64 C1 := hv 10 _ (show 10 < 12 by decide) (hdep 10 (by decide +kernel)) rfl
            exact rg_val rfl (wn_any rfl) (run_asg rfl e26) hS
        rw [frC12_fff rfl rfl rfl rfl rfl rfl rfl rfl rfl rfl rfl rfl rfl]
        simp only [List.setIfInBounds_toArray, List.set_cons_succ, List.set_cons_zero, List.getD_cons_zero, List.getD_cons_succ]
        have HS4 : Hid (∃ q, W = wr.drewN q) := hS
        clear hS
        by_cases h1 : C1 = 0
        · have h1b : (C1 != 0) = false := by simpa using h1
          obtain ⟨w5, hw5⟩ : ∃ x, x = W := ⟨_, rfl⟩
          subst hw5
          have HQ5 : Hid (∀ W : World, (∃ q, W = w5.drewN q) → ∃ q, W = wr.drewN q) := fun W h => by obtain ⟨q, rfl⟩ := h; obtain ⟨p, rfl⟩ := HS4.out; exact ⟨p + q, World.drewN_drewN _ _ _⟩
          have HC5 : Hid (∀ W : World, (∃ q, W = w5.drewN q) → Calls Tryz.prog 131 #[.slice sa sm sk, .slice ta tm tk] W fun e w' => e = .returned (.int .i64 C2) ∧ w' = W) := fun W h => HC2.out W (HQ5.out W h)
          clear HC2
          go_upto_region 7 with (fail)
          refine wp_region_still (fun k => ([.slice (some ⟨b1, o1, none⟩) n c1, .int .i64 (i : Int), .pointer (some ⟨b1, o1 + i * 8, none⟩), .pointer (some ⟨b1, o1 + i * 8, none⟩), .pointer (some ⟨b1, o1 + i * 8 + 4, none⟩), .slice sa sm sk, .slice (some ⟨b2, o2, none⟩) m c2, .int .i64 (i : Int), .pointer (some ⟨b2, o2 + i * 8, none⟩), .pointer (some ⟨b2, o2 + i * 8, none⟩), .pointer (some ⟨b2, o2 + i * 8 + 4, none⟩), .slice ta tm tk, .int .i64 C2, .int .i64 C2] : List Value).getD k undef) (fun W => ∃ q, W = w5.drewN q) rfl (by decide +kernel) (show dstB _ 47 = true by decide +kernel) ⟨1, rfl⟩ (fun W hS => ?_) (fun i L W a hi hno hdep hv hn h0 hS => ?_)
          rotate_left
          · replace hi : i < 14 := hi
            obtain rfl | rfl | rfl | rfl | rfl | rfl | rfl | rfl | rfl | rfl | rfl | rfl | rfl | rfl : i = 0 ∨ i = 1 ∨ i = 2 ∨ i = 3 ∨ i = 4 ∨ i = 5 ∨ i = 6 ∨ i = 7 ∨ i = 8 ∨ i = 9 ∨ i = 10 ∨ i = 11 ∨ i = 12 ∨ i = 13 := by omega
            · have x0 : a.eval (.tmp 0) = .slice (some ⟨b1, o1, none⟩) n c1 := (h0 0 (by decide +kernel)).trans rfl
              exact rg_val rfl (wn_any rfl) (run_mv rfl x0) hS
            · have x5 : a.eval (.tmp 5) = .int .i64 (i : Int) := (h0 5 (by decide +kernel)).trans rfl
              exact rg_val rfl (wn_any rfl) (run_mv rfl x5) hS
            · have e30 : a.eval (.tmp 30) = .slice (some ⟨b1, o1, none⟩) n c1 := hv 0 _ (show 0 < 14 by decide) (hdep 0 (by decide +kernel)) rfl
              have e31 : a.eval (.tmp 31) = .int .i64 (i : Int) := hv 1 _ (show 1 < 14 by decide) (hdep 1 (by decide +kernel)) rfl
              exact rg_val rfl (wn_any rfl) (run_ia (v := .pointer (some ⟨b1, o1 + i * 8, none⟩)) rfl e30 e31 (by simp [go_sem, Instr.indexAt, hin])) hS
            · have e32 : a.eval (.tmp 32) = .pointer (some ⟨b1, o1 + i * 8, none⟩) := hv 2 _ (show 2 < 14 by decide) (hdep 2 (by decide +kernel)) rfl
              exact rg_val rfl (wn_any rfl) (run_fa (v := .pointer (some ⟨b1, o1 + i * 8, none⟩)) rfl e32 (by simp [go_sem, Instr.fieldAt])) hS
            · have e33 : a.eval (.tmp 33) = .pointer (some ⟨b1, o1 + i * 8, none⟩) := hv 3 _ (show 3 < 14 by decide) (hdep 3 (by decide +kernel)) rfl
              exact rg_val rfl (wn_any rfl) (run_fa (v := .pointer (some ⟨b1, o1 + i * 8 + 4, none⟩)) rfl e33 (by simp [go_sem, Instr.fieldAt])) hS
            · have e34 : a.eval (.tmp 34) = .pointer (some ⟨b1, o1 + i * 8 + 4, none⟩) := hv 4 _ (show 4 < 14 by decide) (hdep 4 (by decide +kernel)) rfl
              exact rg_val rfl (wn_any rfl) (run_ld (v := .slice sa sm sk) rfl e34 (by simp [go_sem, Instr.loadAt, (HCX.out W (HQ5.out W hS)).2])) hS
            · have x1 : a.eval (.tmp 1) = .slice (some ⟨b2, o2, none⟩) m c2 := (h0 1 (by decide +kernel)).trans rfl
              exact rg_val rfl (wn_any rfl) (run_mv rfl x1) hS
            · have x5 : a.eval (.tmp 5) = .int .i64 (i : Int) := (h0 5 (by decide +kernel)).trans rfl
              exact rg_val rfl (wn_any rfl) (run_mv rfl x5) hS
            · have e36 : a.eval (.tmp 36) = .slice (some ⟨b2, o2, none⟩) m c2 := hv 6 _ (show 6 < 14 by decide) (hdep 6 (by decide +kernel)) rfl
              have e37 : a.eval (.tmp 37) = .int .i64 (i : Int) := hv 7 _ (show 7 < 14 by decide) (hdep 7 (by decide +kernel)) rfl
              exact rg_val rfl (wn_any rfl) (run_ia (v := .pointer (some ⟨b2, o2 + i * 8, none⟩)) rfl e36 e37 (by simp [go_sem, Instr.indexAt, him])) hS
            · have e38 : a.eval (.tmp 38) = .pointer (some ⟨b2, o2 + i * 8, none⟩) := hv 8 _ (show 8 < 14 by decide) (hdep 8 (by decide +kernel)) rfl
              exact rg_val rfl (wn_any rfl) (run_fa (v := .pointer (some ⟨b2, o2 + i * 8, none⟩)) rfl e38 (by simp [go_sem, Instr.fieldAt])) hS
            · have e39 : a.eval (.tmp 39) = .pointer (some ⟨b2, o2 + i * 8, none⟩) := hv 9 _ (show 9 < 14 by decide) (hdep 9 (by decide +kernel)) rfl
              exact rg_val rfl (wn_any rfl) (run_fa (v := .pointer (some ⟨b2, o2 + i * 8 + 4, none⟩)) rfl e39 (by simp [go_sem, Instr.fieldAt])) hS
            · have e40 : a.eval (.tmp 40) = .pointer (some ⟨b2, o2 + i * 8 + 4, none⟩) := hv 10 _ (show 10 < 14 by decide) (hdep 10 (by decide +kernel)) rfl
              exact rg_val rfl (wn_any rfl) (run_ld (v := .slice ta tm tk) rfl e40 (by simp [go_sem, Instr.loadAt, (HCY.out W (HQ5.out W hS)).2])) hS
            · have e35 : a.eval (.tmp 35) = .slice sa sm sk := hv 5 _ (show 5 < 14 by decide) (hdep 5 (by decide +kernel)) rfl
              have e41 : a.eval (.tmp 41) = .slice ta tm tk := hv 11 _ (show 11 < 14 by decide) (hdep 11 (by decide +kernel)) rfl
              exact rg_call rfl (wn_any rfl) (run_cl2 rfl e35 e41 eg_bcmp) (R := fun w' => w' = W) (HC5.out W hS) (fun w' h => by rw [h]; exact hS)
            · have e42 : a.eval (.tmp 42) = .int .i64 C2 := hv 12 _ (show 12 < 14 by decide) (hdep 12 (by decide +kernel)) rfl
              exact rg_val rfl (wn_any rfl) (run_asg rfl e42) hS
          rw [frC14_3fff rfl rfl rfl rfl rfl rfl rfl rfl rfl rfl rfl rfl rfl rfl rfl]
          simp only [List.setIfInBounds_toArray, List.set_cons_succ, List.set_cons_zero, List.getD_cons_zero, List.getD_cons_succ]
          have HS7 : Hid (∃ q, W = wr.drewN q) := HQ5.out W hS
          clear hS
          by_cases h2 : C2 = 0
          · have h2b : (C2 != 0) = false := by simpa using h2
            have HE : Hid (cmpN ((X.drop (i + 1)).map (·.nd)) ((Y.drop (i + 1)).map (·.nd)) = O) := by show _ = _; rw [HST.out, if_neg (by simpa using h1), if_neg (by simpa using h2)]
            go_wp2
            go_roundw
            case rel => exact ⟨i + 1, by go_num, hlt, (by obtain ⟨q, rfl⟩ := HQ.out; obtain ⟨p, hp⟩ := HS7.out; exact ⟨q + p, hp.trans (World.drewN_drewN _ _ _)⟩), HE.out⟩
            case measure => simp [intOf]; omega
          · have h2b : (C2 != 0) = true := by simpa using h2
            have HE : Hid (C2 = O) := by show _ = _; rw [HST.out, if_neg (by simpa using h1), if_pos h2]
            go_wp2
            go_ret
            exact ⟨retI HE.out, by obtain ⟨q, rfl⟩ := HQ.out; obtain ⟨p, hp⟩ := HS7.out; exact ⟨q + p, hp.trans (World.drewN_drewN _ _ _)⟩⟩
        · have h1b : (C1 != 0) = true := by simpa using h1
          have HE : Hid (C1 = O) := by show _ = _; rw [HST.out, if_pos h1]
          go_wp2
          go_ret
          exact ⟨retI HE.out, by obtain ⟨q, rfl⟩ := HQ.out; obtain ⟨p, hp⟩ := HS4.out; exact ⟨q + p, hp.trans (World.drewN_drewN _ _ _)⟩⟩
      · obtain rfl : i = N := by omega
        have hltI : ¬ (i : Int) < (i : Int) := by omega
        have HE : Hid (0 = O) := by
          show _ = _
          rw [← hC]
          refine (cmpN_end ?_).symm
          rcases HN.out with h | h
          · left; rw [HX.out.2.2.2.2.1]; omega
          · right; rw [HX.out.2.2.2.2.2]; omega
        clear hC hq
        go_wp2
        go_ret
        exact ⟨retI HE.out, HQ.out⟩
  · go_enter Tryz.func120, Tryz.ntmps120
    go_wp2_with fail
    rw [show (n : Int) = (N : Int) by have := HNM.out; omega]
    go_loopw [13] (fun iv wr => ∃ i : Nat, iv = .int .i64 (i : Int) ∧ i ≤ N ∧ (∃ q, wr = w.drewN q) ∧ cmpN ((X.drop i).map (·.nd)) ((Y.drop i).map (·.nd)) = O) (fun iv _ => N - (intOf iv).toNat)
    case atStart => exact ⟨0, rfl, Nat.zero_le _, ⟨0, rfl⟩, HO.out⟩
    case round =>
      obtain ⟨i, rfl, hi, hq, hC⟩ := hrel
      have HQ : Hid (∃ q, wr = w.drewN q) := hq
      by_cases hlt : i < N
      · have hltI : (i : Int) < (N : Int) := by omega
        have hin : i < n := by omega
        have him : i < m := by omega
        have hiX : i < X.length := by rw [HX.out.2.2.2.2.1]; exact hin
        have hiY : i < Y.length := by rw [HX.out.2.2.2.2.2]; exact him
        have hbW : Below w.heap.size w wr := by obtain ⟨q, rfl⟩ := hq; exact drewN_below w q
        obtain ⟨b1, o1, sa, sm, sk, fa, fm, fk, ha1, hb1, s4, s5, -, hsX, hfX⟩ := (HX.out.1.below hbW).at hiX
        obtain ⟨b2, o2, ta, tm, tk, ga, gm, gk, ha2, hb2, t4, t5, -, hsY, hfY⟩ := (HX.out.2.1.below hbW).at hiY
        subst ha1
        subst ha2
        have uX := HX.out.2.2.1 X[i] (List.getElem_mem _)
        have uY := HX.out.2.2.2.1 Y[i] (List.getElem_mem _)
        have hst := cmpN_step hiX hiY
        obtain ⟨C1, hC1⟩ : ∃ C1, cmpB X[i].nd.2 Y[i].nd.2 = C1 := ⟨_, rfl⟩
        obtain ⟨C2, hC2⟩ : ∃ C2, cmpB X[i].nd.1.d Y[i].nd.1.d = C2 := ⟨_, rfl⟩
        have bel : ∀ W : World, (∃ q, W = wr.drewN q) → Below wr.heap.size wr W := fun W h => by obtain ⟨q, rfl⟩ := h; exact drewN_below wr q
        have HCX : Hid (∀ W : World, (∃ q, W = wr.drewN q) → W.cell? ⟨b1, o1 + i * 8 + 5, none⟩ = some (.slice fa fm fk) ∧ W.cell? ⟨b1, o1 + i * 8 + 4, none⟩ = some (.slice sa sm sk)) := fun W h => ⟨((bel W h).cell (p := ⟨b1, o1 + i * 8 + 5, none⟩) hb1).trans s5, ((bel W h).cell (p := ⟨b1, o1 + i * 8 + 4, none⟩) hb1).trans s4⟩
        have HCY : Hid (∀ W : World, (∃ q, W = wr.drewN q) → W.cell? ⟨b2, o2 + i * 8 + 5, none⟩ = some (.slice ga gm gk) ∧ W.cell? ⟨b2, o2 + i * 8 + 4, none⟩ = some (.slice ta tm tk)) := fun W h => ⟨((bel W h).cell (p := ⟨b2, o2 + i * 8 + 5, none⟩) hb2).trans t5, ((bel W h).cell (p := ⟨b2, o2 + i * 8 + 4, none⟩) hb2).trans t4⟩
        have HC1 : Hid (∀ W : World, (∃ q, W = wr.drewN q) → Calls Tryz.prog 131 #[.slice fa fm fk, .slice ga gm gk] W fun e w' => e = .returned (.int .i64 C1) ∧ w' = W) := fun W h => by have := Compare_any (w := W) _ _ _ _ (below_sl (bel W h) hfX) (below_sl (bel W h) hfY) uX.2 uY.2; rwa [hC1] at this
        have HC2 : Hid (∀ W : World, (∃ q, W = wr.drewN q) → Calls Tryz.prog 131 #[.slice sa sm sk, .slice ta tm tk] W fun e w' => e = .returned (.int .i64 C2) ∧ w' = W) := fun W h => by have := Compare_any (w := W) _ _ _ _ (below_sl (bel W h) hsX) (below_sl (bel W h) hsY) uX.1 uY.1; rwa [hC2] at this
        rw [hC1, hC2, hC] at hst
        have HST : Hid (O = if C1 ≠ 0 then C1 else if C2 ≠ 0 then C2 else cmpN ((X.drop (i + 1)).map (·.nd)) ((Y.drop (i + 1)).map (·.nd))) := hst
        clear hC hq hsX hfX hsY hfY uX uY hst hC1 hC2 bel s4 s5 t4 t5 hbW
        go_upto_region 4 with (fail)
        refine wp_region_still (fun k => ([.slice (some ⟨b1, o1, none⟩) n c1, .int .i64 (i : Int), .pointer (some ⟨b1, o1 + i * 8, none⟩), .pointer (some ⟨b1, o1 + i * 8 + 5, none⟩), .slice fa fm fk, .slice (some ⟨b2, o2, none⟩) m c2, .int .i64 (i : Int), .pointer (some ⟨b2, o2 + i * 8, none⟩), .pointer (some ⟨b2, o2 + i * 8 + 5, none⟩), .slice ga gm gk, .int .i64 C1, .int .i64 C1] : List Value).getD k undef) (fun W => ∃ q, W = wr.drewN q) rfl (by decide +kernel) (show dstB _ 47 = true by decide +kernel) ⟨1, rfl⟩ (fun W hS => ?_) (fun i L W a hi hno hdep hv hn h0 hS => ?_)
        rotate_left
        · replace hi : i < 12 := hi
          obtain rfl | rfl | rfl | rfl | rfl | rfl | rfl | rfl | rfl | rfl | rfl | rfl : i = 0 ∨ i = 1 ∨ i = 2 ∨ i = 3 ∨ i = 4 ∨ i = 5 ∨ i = 6 ∨ i = 7 ∨ i = 8 ∨ i = 9 ∨ i = 10 ∨ i = 11 := by omega
          · have x0 : a.eval (.tmp 0) = .slice (some ⟨b1, o1, none⟩) n c1 := (h0 0 (by decide +kernel)).trans rfl
            exact rg_val rfl (wn_any rfl) (run_mv rfl x0) hS
          · have x5 : a.eval (.tmp 5) = .int .i64 (i : Int) := (h0 5 (by decide +kernel)).trans rfl
            exact rg_val rfl (wn_any rfl) (run_mv rfl x5) hS
          · have e16 : a.eval (.tmp 16) = .slice (some ⟨b1, o1, none⟩) n c1 := hv 0 _ (show 0 < 12 by decide) (hdep 0 (by decide +kernel)) rfl
            have e17 : a.eval (.tmp 17) = .int .i64 (i : Int) := hv 1 _ (show 1 < 12 by decide) (hdep 1 (by decide +kernel)) rfl
            exact rg_val rfl (wn_any rfl) (run_ia (v := .pointer (some ⟨b1, o1 + i * 8, none⟩)) rfl e16 e17 (by simp [go_sem, Instr.indexAt, hin])) hS
          · have e18 : a.eval (.tmp 18) = .pointer (some ⟨b1, o1 + i * 8, none⟩) := hv 2 _ (show 2 < 12 by decide) (hdep 2 (by decide +kernel)) rfl
            exact rg_val rfl (wn_any rfl) (run_fa (v := .pointer (some ⟨b1, o1 + i * 8 + 5, none⟩)) rfl e18 (by simp [go_sem, Instr.fieldAt])) hS
          · have e19 : a.eval (.tmp 19) = .pointer (some ⟨b1, o1 + i * 8 + 5, none⟩) := hv 3 _ (show 3 < 12 by decide) (hdep 3 (by decide +kernel)) rfl
            exact rg_val rfl (wn_any rfl) (run_ld (v := .slice fa fm fk) rfl e19 (by simp [go_sem, Instr.loadAt, (HCX.out W hS).1])) hS
          · have x1 : a.eval (.tmp 1) = .slice (some ⟨b2, o2, none⟩) m c2 := (h0 1 (by decide +kernel)).trans rfl
            exact rg_val rfl (wn_any rfl) (run_mv rfl x1) hS
          · have x5 : a.eval (.tmp 5) = .int .i64 (i : Int) := (h0 5 (by decide +kernel)).trans rfl
            exact rg_val rfl (wn_any rfl) (run_mv rfl x5) hS
          · have e21 : a.eval (.tmp 21) = .slice (some ⟨b2, o2, none⟩) m c2 := hv 5 _ (show 5 < 12 by decide) (hdep 5 (by decide +kernel)) rfl
            have e22 : a.eval (.tmp 22) = .int .i64 (i : Int) := hv 6 _ (show 6 < 12 by decide) (hdep 6 (by decide +kernel)) rfl
            exact rg_val rfl (wn_any rfl) (run_ia (v := .pointer (some ⟨b2, o2 + i * 8, none⟩)) rfl e21 e22 (by simp [go_sem, Instr.indexAt, him])) hS
          · have e23 : a.eval (.tmp 23) = .pointer (some ⟨b2, o2 + i * 8, none⟩) := hv 7 _ (show 7 < 12 by decide) (hdep 7 (by decide +kernel)) rfl
            exact rg_val rfl (wn_any rfl) (run_fa (v := .pointer (some ⟨b2, o2 + i * 8 + 5, none⟩)) rfl e23 (by simp [go_sem, Instr.fieldAt])) hS
          · have e24 : a.eval (.tmp 24) = .pointer (some ⟨b2, o2 + i * 8 + 5, none⟩) := hv 8 _ (show 8 < 12 by decide) (hdep 8 (by decide +kernel)) rfl
            exact rg_val rfl (wn_any rfl) (run_ld (v := .slice ga gm gk) rfl e24 (by simp [go_sem, Instr.loadAt, (HCY.out W hS).1])) hS
          · have e20 : a.eval (.tmp 20) = .slice fa fm fk := hv 4 _ (show 4 < 12 by decide) (hdep 4 (by decide +kernel)) rfl
            have e25 : a.eval (.tmp 25) = .slice ga gm gk := hv 9 _ (show 9 < 12 by decide) (hdep 9 (by decide +kernel)) rfl
            exact rg_call rfl (wn_any rfl) (run_cl2 rfl e20 e25 eg_bcmp) (R := fun w' => w' = W) (HC1.out W hS) (fun w' h => by rw [h]; exact hS)
          · have e26 : a.eval (.tmp 26) = .int .i64 C1 := hv 10 _ (show 10 < 12 by decide) (hdep 10 (by decide +kernel)) rfl
            exact rg_val rfl (wn_any rfl) (run_asg rfl e26) hS
        rw [frC12_fff rfl rfl rfl rfl rfl rfl rfl rfl rfl rfl rfl rfl rfl]
        simp only [List.setIfInBounds_toArray, List.set_cons_succ, List.set_cons_zero, List.getD_cons_zero, List.getD_cons_succ]
        have HS4 : Hid (∃ q, W = wr.drewN q) := hS
        clear hS
        by_cases h1 : C1 = 0
        · have h1b : (C1 != 0) = false := by simpa using h1
          obtain ⟨w5, hw5⟩ : ∃ x, x = W := ⟨_, rfl⟩
          subst hw5
          have HQ5 : Hid (∀ W : World, (∃ q, W = w5.drewN q) → ∃ q, W = wr.drewN q) := fun W h => by obtain ⟨q, rfl⟩ := h; obtain ⟨p, rfl⟩ := HS4.out; exact ⟨p + q, World.drewN_drewN _ _ _⟩
          have HC5 : Hid (∀ W : World, (∃ q, W = w5.drewN q) → Calls Tryz.prog 131 #[.slice sa sm sk, .slice ta tm tk] W fun e w' => e = .returned (.int .i64 C2) ∧ w' = W) := fun W h => HC2.out W (HQ5.out W h)
          clear HC2
          go_upto_region 7 with (fail)
          refine wp_region_still (fun k => ([.slice (some ⟨b1, o1, none⟩) n c1, .int .i64 (i : Int), .pointer (some ⟨b1, o1 + i * 8, none⟩), .pointer (some ⟨b1, o1 + i * 8, none⟩), .pointer (some ⟨b1, o1 + i * 8 + 4, none⟩), .slice sa sm sk, .slice (some ⟨b2, o2, none⟩) m c2, .int .i64 (i : Int), .pointer (some ⟨b2, o2 + i * 8, none⟩), .pointer (some ⟨b2, o2 + i * 8, none⟩), .pointer (some ⟨b2, o2 + i * 8 + 4, none⟩), .slice ta tm tk, .int .i64 C2, .int .i64 C2] : List Value).getD k undef) (fun W => ∃ q, W = w5.drewN q) rfl (by decide +kernel) (show dstB _ 47 = true by decide +kernel) ⟨1, rfl⟩ (fun W hS => ?_) (fun i L W a hi hno hdep hv hn h0 hS => ?_)
          rotate_left
          · replace hi : i < 14 := hi
            obtain rfl | rfl | rfl | rfl | rfl | rfl | rfl | rfl | rfl | rfl | rfl | rfl | rfl | rfl : i = 0 ∨ i = 1 ∨ i = 2 ∨ i = 3 ∨ i = 4 ∨ i = 5 ∨ i = 6 ∨ i = 7 ∨ i = 8 ∨ i = 9 ∨ i = 10 ∨ i = 11 ∨ i = 12 ∨ i = 13 := by omega
            · have x0 : a.eval (.tmp 0) = .slice (some ⟨b1, o1, none⟩) n c1 := (h0 0 (by decide +kernel)).trans rfl
              exact rg_val rfl (wn_any rfl) (run_mv rfl x0) hS
            · have x5 : a.eval (.tmp 5) = .int .i64 (i : Int) := (h0 5 (by decide +kernel)).trans rfl
              exact rg_val rfl (wn_any rfl) (run_mv rfl x5) hS
            · have e30 : a.eval (.tmp 30) = .slice (some ⟨b1, o1, none⟩) n c1 := hv 0 _ (show 0 < 14 by decide) (hdep 0 (by decide +kernel)) rfl
              have e31 : a.eval (.tmp 31) = .int .i64 (i : Int) := hv 1 _ (show 1 < 14 by decide) (hdep 1 (by decide +kernel)) rfl
              exact rg_val rfl (wn_any rfl) (run_ia (v := .pointer (some ⟨b1, o1 + i * 8, none⟩)) rfl e30 e31 (by simp [go_sem, Instr.indexAt, hin])) hS
            · have e32 : a.eval (.tmp 32) = .pointer (some ⟨b1, o1 + i * 8, none⟩) := hv 2 _ (show 2 < 14 by decide) (hdep 2 (by decide +kernel)) rfl
              exact rg_val rfl (wn_any rfl) (run_fa (v := .pointer (some ⟨b1, o1 + i * 8, none⟩)) rfl e32 (by simp [go_sem, Instr.fieldAt])) hS
            · have e33 : a.eval (.tmp 33) = .pointer (some ⟨b1, o1 + i * 8, none⟩) := hv 3 _ (show 3 < 14 by decide) (hdep 3 (by decide +kernel)) rfl
              exact rg_val rfl (wn_any rfl) (run_fa (v := .pointer (some ⟨b1, o1 + i * 8 + 4, none⟩)) rfl e33 (by simp [go_sem, Instr.fieldAt])) hS
            · have e34 : a.eval (.tmp 34) = .pointer (some ⟨b1, o1 + i * 8 + 4, none⟩) := hv 4 _ (show 4 < 14 by decide) (hdep 4 (by decide +kernel)) rfl
              exact rg_val rfl (wn_any rfl) (run_ld (v := .slice sa sm sk) rfl e34 (by simp [go_sem, Instr.loadAt, (HCX.out W (HQ5.out W hS)).2])) hS
            · have x1 : a.eval (.tmp 1) = .slice (some ⟨b2, o2, none⟩) m c2 := (h0 1 (by decide +kernel)).trans rfl
              exact rg_val rfl (wn_any rfl) (run_mv rfl x1) hS
            · have x5 : a.eval (.tmp 5) = .int .i64 (i : Int) := (h0 5 (by decide +kernel)).trans rfl
              exact rg_val rfl (wn_any rfl) (run_mv rfl x5) hS
            · have e36 : a.eval (.tmp 36) = .slice (some ⟨b2, o2, none⟩) m c2 := hv 6 _ (show 6 < 14 by decide) (hdep 6 (by decide +kernel)) rfl
              have e37 : a.eval (.tmp 37) = .int .i64 (i : Int) := hv 7 _ (show 7 < 14 by decide) (hdep 7 (by decide +kernel)) rfl
              exact rg_val rfl (wn_any rfl) (run_ia (v := .pointer (some ⟨b2, o2 + i * 8, none⟩)) rfl e36 e37 (by simp [go_sem, Instr.indexAt, him])) hS
            · have e38 : a.eval (.tmp 38) = .pointer (some ⟨b2, o2 + i * 8, none⟩) := hv 8 _ (show 8 < 14 by decide) (hdep 8 (by decide +kernel)) rfl
              exact rg_val rfl (wn_any rfl) (run_fa (v := .pointer (some ⟨b2, o2 + i * 8, none⟩)) rfl e38 (by simp [go_sem, Instr.fieldAt])) hS
            · have e39 : a.eval (.tmp 39) = .pointer (some ⟨b2, o2 + i * 8, none⟩) := hv 9 _ (show 9 < 14 by decide) (hdep 9 (by decide +kernel)) rfl
              exact rg_val rfl (wn_any rfl) (run_fa (v := .pointer (some ⟨b2, o2 + i * 8 + 4, none⟩)) rfl e39 (by simp [go_sem, Instr.fieldAt])) hS
            · have e40 : a.eval (.tmp 40) = .pointer (some ⟨b2, o2 + i * 8 + 4, none⟩) := hv 10 _ (show 10 < 14 by decide) (hdep 10 (by decide +kernel)) rfl
              exact rg_val rfl (wn_any rfl) (run_ld (v := .slice ta tm tk) rfl e40 (by simp [go_sem, Instr.loadAt, (HCY.out W (HQ5.out W hS)).2])) hS
            · have e35 : a.eval (.tmp 35) = .slice sa sm sk := hv 5 _ (show 5 < 14 by decide) (hdep 5 (by decide +kernel)) rfl
              have e41 : a.eval (.tmp 41) = .slice ta tm tk := hv 11 _ (show 11 < 14 by decide) (hdep 11 (by decide +kernel)) rfl
              exact rg_call rfl (wn_any rfl) (run_cl2 rfl e35 e41 eg_bcmp) (R := fun w' => w' = W) (HC5.out W hS) (fun w' h => by rw [h]; exact hS)
            · have e42 : a.eval (.tmp 42) = .int .i64 C2 := hv 12 _ (show 12 < 14 by decide) (hdep 12 (by decide +kernel)) rfl
              exact rg_val rfl (wn_any rfl) (run_asg rfl e42) hS
          rw [frC14_3fff rfl rfl rfl rfl rfl rfl rfl rfl rfl rfl rfl rfl rfl rfl rfl]
          simp only [List.setIfInBounds_toArray, List.set_cons_succ, List.set_cons_zero, List.getD_cons_zero, List.getD_cons_succ]
          have HS7 : Hid (∃ q, W = wr.drewN q) := HQ5.out W hS
          clear hS
          by_cases h2 : C2 = 0
          · have h2b : (C2 != 0) = false := by simpa using h2
            have HE : Hid (cmpN ((X.drop (i + 1)).map (·.nd)) ((Y.drop (i + 1)).map (·.nd)) = O) := by show _ = _; rw [HST.out, if_neg (by simpa using h1), if_neg (by simpa using h2)]
            go_wp2
            go_roundw
            case rel => exact ⟨i + 1, by go_num, hlt, (by obtain ⟨q, rfl⟩ := HQ.out; obtain ⟨p, hp⟩ := HS7.out; exact ⟨q + p, hp.trans (World.drewN_drewN _ _ _)⟩), HE.out⟩
            case measure => simp [intOf]; omega
          · have h2b : (C2 != 0) = true := by simpa using h2
            have HE : Hid (C2 = O) := by show _ = _; rw [HST.out, if_neg (by simpa using h1), if_pos h2]
            go_wp2
            go_ret
            exact ⟨retI HE.out, by obtain ⟨q, rfl⟩ := HQ.out; obtain ⟨p, hp⟩ := HS7.out; exact ⟨q + p, hp.trans (World.drewN_drewN _ _ _)⟩⟩
        · have h1b : (C1 != 0) = true := by simpa using h1
          have HE : Hid (C1 = O) := by show _ = _; rw [HST.out, if_pos h1]
          go_wp2
          go_ret
          exact ⟨retI HE.out, by obtain ⟨q, rfl⟩ := HQ.out; obtain ⟨p, hp⟩ := HS4.out; exact ⟨q + p, hp.trans (World.drewN_drewN _ _ _)⟩⟩
      · obtain rfl : i = N := by omega
        have hltI : ¬ (i : Int) < (i : Int) := by omega
        have HE : Hid (0 = O) := by
          show _ = _
          rw [← hC]
          refine (cmpN_end ?_).symm
          rcases HN.out with h | h
          · left; rw [HX.out.2.2.2.2.1]; omega
          · right; rw [HX.out.2.2.2.2.2]; omega
        clear hC hq
        go_wp2
        go_ret
        exact ⟨retI HE.out, HQ.out⟩
end Go.Proofs.YtefebamomdcaaaaGreatDoor
