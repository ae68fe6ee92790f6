/-
  Alg: readOid, readIdentifier.
-/
import Derived.Test.YtillkhjihggcjaaGreatDoorK10
namespace Go.Proofs.YtillkhjihggcjaaGreatDoor
open Go.RowKit
set_option maxRecDepth 20000
theorem oidF_len {X : List Int} (h : X.length ≤ 5000) : (oidF X).1.length ≤ 120000 := by
  unfold oidF
  split
  · split
    · simp
    · rename_i h2
      have h3 := oidS_len (A := (gst X X.length).1) (by simpa using h2)
      have h4 := gst_len X X.length
      show (oidS (gst X X.length).1).length ≤ 120000
      omega
  · simp
def OidAns (e : Ending) : Option ByteArray → Prop
  | none => ∃ s, e = .returned (.tuple #[.string s, .bool false])
  | some S => e = .returned (.tuple #[.string S, .bool true])
set_option maxHeartbeats 1000000 in
theorem readOid_any {w : World} (x : El) (a1 : Option Addr) (n1 c1 : Nat) (a2 : Option Addr) (n2 c2 : Nat) (hD : Sl .u8 w (.slice a1 n1 c1) x.d) (uD : U8s x.d) (lD : x.d.length ≤ 5000) (hT : P10 w) :
    Calls Tryz.prog 70 #[.agg #[.int .i64 x.cl, .int .i64 x.tg, .bool x.co, .slice a1 n1 c1, .slice a2 n2 c2]] w fun e w' => OidAns e (oidO x) ∧ Below w.heap.size w w' := by
  have HP : Hid (∀ W : World, Calls Tryz.prog 71 #[.agg #[.int .i64 x.cl, .int .i64 x.tg, .bool x.co, .slice a1 n1 c1, .slice a2 n2 c2], .int .i64 6] W fun e w' => e = .returned (.bool (isP x 6)) ∧ Below W.heap.size W w') := fun W => isPlain_any x _ _ 6
  have HO : Hid (∀ W, Below w.heap.size w W → Calls Tryz.prog 93 #[.slice a1 n1 c1] W fun e w' => e = .returned (.tuple #[.string (strOfNums (oidF x.d).1), .int .i64 (oidF x.d).2]) ∧ Below W.heap.size W w') := fun W h => (Oid_any _ x.d (below_sl h hD) uD lD (hT.below h)).mono fun e w' ⟨⟨s, er, h1, h2⟩, hb⟩ => ⟨by obtain ⟨e1, e2⟩ := oidF_of h1; rw [h2, e1, e2], hb⟩
  obtain ⟨O, hO⟩ : ∃ O, oidO x = O := ⟨_, rfl⟩
  rw [hO]
  have HQ : Hid (O = if isP x 6 = true ∧ (oidF x.d).2 = 0 then some (strOfNums (oidF x.d).1) else none) := by show _ = _; rw [← hO]; rfl
  obtain ⟨cl, tg, co, D, R⟩ := x
  simp only [] at hD uD lD HP HO HQ ⊢
  obtain ⟨b, hb⟩ : ∃ b, isP ⟨cl, tg, co, D, R⟩ 6 = b := ⟨_, rfl⟩
  rw [hb] at HP HQ
  obtain ⟨S, hS⟩ : ∃ S, strOfNums (oidF D).1 = S := ⟨_, rfl⟩
  obtain ⟨er, her⟩ : ∃ er, (oidF D).2 = er := ⟨_, rfl⟩
  rw [hS, her] at HO HQ
  clear hD uD lD hT hO hb hS her
  go_enter Tryz.func70, Tryz.ntmps70
  go_wp2_with fail
  refine (HP.out _).mono ?_
  rintro e w1 ⟨rfl, hb1⟩
  have H1 : Hid (Below w.heap.size w w1 ∧ Blk 24 w1 w.heap.size [.int .i64 cl, .int .i64 tg, .bool co, .slice a1 n1 c1, .slice a2 n2 c2]) := ⟨below_via (al1 _) hb1 (Nat.le_refl _), below_blk hb1 (by simp) (Blk.new _ w _)⟩
  have q3 : w1.cell? ⟨w.heap.size, 3, none⟩ = some (.slice a1 n1 c1) := H1.out.2.cell 3
  clear hb1
  cases b with
  | false =>
    have HN : Hid (O = none) := by show _ = _; rw [HQ.out]; simp
    clear HQ HP HO q3
    go_wp2
    go_ret2
    rw [HN.out]
    exact ⟨⟨_, rfl⟩, H1.out.1⟩
  | true =>
    go_wp2_with fail
    refine (HO.out _ H1.out.1).mono ?_
    rintro e w2 ⟨rfl, hb2⟩
    have H2 : Hid (Below w.heap.size w w2) := below_via H1.out.1 hb2 (Nat.le_refl _)
    clear hb2 q3
    by_cases h0 : er = 0
    · subst h0
      have HN : Hid (O = some S) := by show _ = _; rw [HQ.out]; simp
      clear HQ HP HO
      go_wp2
      go_ret2
      rw [HN.out]
      exact ⟨rfl, H2.out⟩
    · have h00 : (er == 0) = false := by simpa using h0
      have HN : Hid (O = none) := by show _ = _; rw [HQ.out]; simp [h0]
      clear HQ HP HO h0
      go_wp2
      go_ret2
      rw [HN.out]
      exact ⟨⟨_, rfl⟩, H2.out⟩
end Go.Proofs.YtillkhjihggcjaaGreatDoor
/-
  Alg: the first of a row of elements; readIdentifier.
-/
namespace Go.Proofs.YtillkhjihggcjaaGreatDoor
open Go.RowKit
set_option maxRecDepth 20000
theorem TlvS.cons {w : World} {v : Value} {x : El} {L : List El} (h : TlvS w v (x :: L)) :
    ∃ b off c a1 n1 c1 a2 n2 c2, v = .slice (some ⟨b, off, none⟩) (L.length + 1) c ∧ L.length + 1 ≤ c ∧ b < w.heap.size ∧ w.cell? ⟨b, off, none⟩ = some (.int .i64 x.cl) ∧ w.cell? ⟨b, off + 1, none⟩ = some (.int .i64 x.tg) ∧ w.cell? ⟨b, off + 2, none⟩ = some (.bool x.co) ∧ w.cell? ⟨b, off + 3, none⟩ = some (.slice a1 n1 c1) ∧ w.cell? ⟨b, off + 4, none⟩ = some (.slice a2 n2 c2)
      ∧ Sl .u8 w (.slice a1 n1 c1) x.d ∧ Sl .u8 w (.slice a2 n2 c2) x.r ∧ TlvS w (.slice (some ⟨b, off + 5, none⟩) L.length (c - 1)) L := by
  obtain ⟨a, c, Y, rfl, hc, hY, hr, hs⟩ := h
  rcases hr with h | ⟨b, off, rfl, hb, hr⟩
  · cases h
  cases Y with
  | nil => simp at hY
  | cons y Y =>
    obtain ⟨x', d, r⟩ := y
    simp only [List.map_cons, List.cons.injEq] at hY
    obtain ⟨rfl, hY⟩ := hY
    have hd : Sl .u8 w d x'.d ∧ Sl .u8 w r x'.r := hs (x', d, r) (by simp)
    obtain ⟨a1, c1, rfl, _⟩ := id hd.1
    obtain ⟨a2, c2, rfl, _⟩ := id hd.2
    have q : ∀ q u, q < 5 → (cell5 (x', .slice a1 x'.d.length c1, .slice a2 x'.r.length c2))[q]? = some u → w.cell? ⟨b, off + q, none⟩ = some u := fun q u hq hu => by
      have := cells_at hr (i := 0) (by simp) _ rfl q hq u hu
      simpa using this
    refine ⟨b, off, c, a1, _, c1, a2, _, c2, rfl, by simpa using hc, hb, q 0 _ (by decide) rfl, q 1 _ (by decide) rfl, q 2 _ (by decide) rfl, q 3 _ (by decide) rfl, q 4 _ (by decide) rfl, hd.1, hd.2, ?_⟩
    refine ⟨_, _, Y, rfl, by simp at hc; omega, hY, ?_, fun y hy => hs y (List.mem_cons_of_mem _ hy)⟩
    refine .inr ⟨b, off + 5, rfl, hb, fun i hi => ?_⟩
    have h5 := hr (i + 5) (by simp; omega)
    rw [show off + 5 + i = off + (i + 5) by omega, h5]
    simp only [tlvCells, List.flatMap_cons]
    rw [List.getElem?_append_right (by show 5 ≤ i + 5; omega)]
    rfl
theorem TlvS.nil (w : World) (a : Option Addr) (c : Nat) : TlvS w (.slice a 0 c) [] := ⟨a, c, [], rfl, Nat.zero_le _, rfl, .inl rfl, by simp⟩
/-- What readIdentifier tells. -/
def IdAns (an : Addr) (w : World) (e : Ending) : Option (ByteArray × List El) → Prop
  | none => ∃ s, e = .returned (.tuple #[.agg #[.string ⟨#[]⟩, .slice none 0 0], flV an s])
  | some (S, rest) => ∃ a n c, e = .returned (.tuple #[.agg #[.string S, .slice a n c], .nilIface]) ∧ rest.length = n ∧ TlvS w (.slice a n c) rest
theorem Tryz.sizeId : (Tryz.prog.info? 101).map (·.size) = some 2 := by kernel_rfl
theorem str_nn {k : IntKind} {s : ByteArray} {a : Option Addr} {n c : Nat} : ∀ x ∈ [Value.string s, Value.slice a n c], ∀ m, x ≠ .int k m := by
  intro x hx m
  simp only [List.mem_cons, List.not_mem_nil, or_false] at hx
  rcases hx with rfl | rfl <;> intro h <;> cases h
theorem sl_upA {k : IntKind} {T : TypeId} {w w' : World} {b : Nat} {cs : List Value} {v : Value} {xs : List Int} (h : Sl k w v xs) (hB : Blk T w b cs) (hc : ∀ c ∈ cs, ∀ n, c ≠ .int k n) (hU : Upd w w' b) : Sl k w' v xs := by
  obtain ⟨a, c, rfl, hl, h1⟩ := h
  refine ⟨a, c, rfl, hl, ?_⟩
  by_cases h0 : xs = []
  · exact .inl h0
  rcases h1 with h1 | ⟨b', off, rfl, hb, hr⟩
  · exact absurd h1 h0
  refine .inr ⟨b', off, rfl, Nat.lt_of_lt_of_le hb hU.size, hU.rd hb hr fun he => ?_⟩
  subst he
  have h2 := hr 0 (List.length_pos_iff.2 h0)
  rw [hB.cell] at h2
  exact hc _ (List.mem_of_getElem? h2) _ rfl
/-- The result's block turned: what else there is stands. -/
theorem TlvS.upd {w w' : World} {v : Value} {L : List El} {g : Nat} {T : TypeId} {cs : List Value} (h : TlvS w v L) (hB : Blk T w g cs) (hU : Upd w w' g) (hg : ∀ b off n c, v = .slice (some ⟨b, off, none⟩) n c → b ≠ g) (hcs : ∀ x ∈ cs, ∀ m, x ≠ .int .u8 m) : TlvS w' v L := by
  obtain ⟨a, c, Y, rfl, h1, h2, h3, h4⟩ := h
  refine ⟨a, c, Y, rfl, h1, h2, ?_, fun y hy => ⟨sl_upA (h4 y hy).1 hB hcs hU, sl_upA (h4 y hy).2 hB hcs hU⟩⟩
  rcases h3 with h3 | ⟨b, off, rfl, hbl, hr⟩
  · exact .inl h3
  · exact .inr ⟨b, off, rfl, Nat.lt_of_lt_of_le hbl hU.size, fun i hi => (World.cell?_of_block (a := ⟨b, off + i, none⟩) (hU.block b hbl (by have := hg b off _ _ rfl; simp [this]))).trans (hr i hi)⟩
end Go.Proofs.YtillkhjihggcjaaGreatDoor
/-
  Alg: readIdentifier.
-/
namespace Go.Proofs.YtillkhjihggcjaaGreatDoor
open Go.RowKit
set_option maxRecDepth 20000
theorem Tlvs.blk {B : Nat} {w : World} {b off n c : Nat} {L : List El} (h : Tlvs B w (.slice (some ⟨b, off, none⟩) n c) L) : B ≤ b := by
  obtain ⟨Y, _, ⟨_, h2⟩, _⟩ := h
  rcases h2 with ⟨h2, _⟩ | ⟨b', S, c', h2, hB, _⟩
  · cases h2
  · simp only [Value.slice.injEq, Option.some.injEq, Addr.mk.injEq] at h2
    omega
theorem Tlvs.len {B : Nat} {w : World} {v : Value} {L : List El} (h : Tlvs B w v L) : ∃ a c, v = .slice a L.length c := by
  obtain ⟨Y, h1, h2, _⟩ := h
  obtain ⟨a, c, h3⟩ := h2.ne
  rw [← h1, List.length_map]
  exact ⟨a, c, h3⟩
set_option maxHeartbeats 4000000 in
theorem readId_any {w : World} {an ak : Addr} (hG : Glb w an ak) (hT : P10 w) (x : El) (a1 : Option Addr) (n1 c1 : Nat) (a2 : Option Addr) (n2 c2 : Nat) (hD : Sl .u8 w (.slice a1 n1 c1) x.d) (uD : U8s x.d) (lD : x.d.length ≤ 5000) :
    Calls Tryz.prog 46 #[.agg #[.int .i64 x.cl, .int .i64 x.tg, .bool x.co, .slice a1 n1 c1, .slice a2 n2 c2]] w fun e w' => IdAns an w' e (idS x) ∧ Below w.heap.size w w' := by
  have HR : Hid (∀ W, Below w.heap.size w W → Calls Tryz.prog 55 #[.agg #[.int .i64 x.cl, .int .i64 x.tg, .bool x.co, .slice a1 n1 c1, .slice a2 n2 c2]] W fun e w' => RowAns W.heap.size w' e (rowS x) ∧ Below W.heap.size W w') := fun W h => row_any x a1 n1 c1 _ (below_sl h hD) uD lD
  have HN : Hid (∀ W s, Below w.heap.size w W → Calls Tryz.prog 49 #[.string s] W fun e w' => e = .returned (flV an s) ∧ W = w') := fun W s h => none_any (hG.below h) s
  obtain ⟨O, hO⟩ : ∃ O, idS x = O := ⟨_, rfl⟩
  obtain ⟨RO, hRO⟩ : ∃ R, rowS x = R := ⟨_, rfl⟩
  rw [hO]
  rw [hRO] at HR
  have HQ : Hid (O = idO RO) := by show _ = _; rw [← hO, ← hRO]; rfl
  have HL : Hid (∀ L, RO = some L → ∀ y ∈ L, y.d.length ≤ 5000 ∧ U8s y.d ∧ 0 ≤ y.tg) := by
    intro L h y hy
    rw [← hRO] at h
    unfold rowS at h
    split at h
    · cases hS : splitS x.d with
      | inl pq => rw [hS] at h; cases h
      | inr L' =>
        rw [hS] at h
        obtain rfl : L' = L := Option.some.inj h
        have := splitS_good uD hS y hy
        exact ⟨by omega, this.2⟩
    · cases h
  have HT : Hid (P10 w) := hT
  obtain ⟨cl, tg, co, D, R⟩ := x
  simp only [] at hD HR ⊢
  clear hD uD lD hO hRO hG hT
  go_enter Tryz.func46, Tryz.ntmps46
  go_wp2_with fail
  refine (HR.out _ (below_via (al1 _) (al1 _) (Nat.le_refl _))).mono ?_
  rintro e w1 ⟨ha, hb⟩
  have H1 : Hid (Below w.heap.size w w1 ∧ Blk 101 w1 (w.heap.size + 1) [.string ⟨#[]⟩, .slice none 0 0]) := ⟨below_via (below_via (al1 _) (al1 _) (Nat.le_refl _)) hb (Nat.le_refl _), below_blk hb (by simp) (by
    have := Blk.new 101 (w.alloc (.cells #[.int .i64 cl, .int .i64 tg, .bool co, .slice a1 n1 c1, .slice a2 n2 c2] 24)) [.string ⟨#[]⟩, .slice none 0 0]
    rw [World.size_alloc] at this
    exact this)⟩
  have hs1 : w.heap.size + 1 < w1.heap.size := H1.out.2.lt
  have hsz : ((w.alloc (.cells #[.int .i64 cl, .int .i64 tg, .bool co, .slice a1 n1 c1, .slice a2 n2 c2] 24)).alloc (.cells #[.string ⟨#[]⟩, .slice none 0 0] 101)).heap.size = w.heap.size + 2 := by simp
  rw [hsz] at ha
  clear hb hsz HR
  have bad : Hid (∀ (W : World) (s : ByteArray), Below w.heap.size w W → Blk 101 W (w.heap.size + 1) [.string ⟨#[]⟩, .slice none 0 0] → Below w.heap.size w ((W.setCell ⟨w.heap.size + 1, 0, none⟩ (.string ⟨#[]⟩)).setCell ⟨w.heap.size + 1, 1, none⟩ (.slice none 0 0)) ∧ Blk 101 ((W.setCell ⟨w.heap.size + 1, 0, none⟩ (.string ⟨#[]⟩)).setCell ⟨w.heap.size + 1, 1, none⟩ (.slice none 0 0)) (w.heap.size + 1) [.string ⟨#[]⟩, .slice none 0 0]) := by
    intro W s hW hB
    exact ⟨((Upd.set W (w.heap.size + 1) 0 (.string ⟨#[]⟩)).trans (Upd.set _ _ 1 (.slice none 0 0))).below hW hW.size (by omega), (hB.set 0 (.string ⟨#[]⟩)).set 1 (.slice none 0 0)⟩
  have d0 : w1.cell? ⟨w.heap.size + 1, 0, none⟩ = some (.string ⟨#[]⟩) := H1.out.2.cell 0
  have d1 : w1.cell? ⟨w.heap.size + 1, 1, none⟩ = some (.slice none 0 0) := H1.out.2.cell 1
  have f0 := H1.out.2.frozen 0
  have f1 := H1.out.2.frozen 1
  cases RO with
  | none =>
    obtain ⟨a, n, c, rfl⟩ := ha
    have HO : Hid (O = none) := HQ.out
    clear HQ HL HT
    go_wp2_with (go_at_call 49; refine (HN.out _ _ H1.out.1).mono ?_; rintro e w2 ⟨rfl, rfl⟩)
    have hw := bad.out w1 ⟨#[]⟩ H1.out.1 H1.out.2
    refine bodyPost_ret (results_blk2 rfl rfl hw.2 Tryz.underlying101 rfl Tryz.sizeId rfl) rfl ⟨?_, hw.1⟩
    rw [HO.out]
    exact ⟨_, rfl⟩
  | some L =>
    obtain ⟨v, rfl, hv⟩ := ha
    obtain ⟨av, cv, rfl⟩ := hv.len
    match L, HQ, HL, hv with
    | [], HQ, HL, hv =>
      have HO : Hid (O = none) := HQ.out
      clear HQ HL HT hv
      simp only [List.length_nil]
      go_wp2_with (go_at_call 49; refine (HN.out _ _ H1.out.1).mono ?_; rintro e w2 ⟨rfl, rfl⟩)
      have hw := bad.out w1 ⟨#[]⟩ H1.out.1 H1.out.2
      refine bodyPost_ret (results_blk2 rfl rfl hw.2 Tryz.underlying101 rfl Tryz.sizeId rfl) rfl ⟨?_, hw.1⟩
      rw [HO.out]
      exact ⟨_, rfl⟩
    | y0 :: y1 :: y2 :: L, HQ, HL, hv =>
      have HO : Hid (O = none) := HQ.out
      obtain ⟨k, hk⟩ : ∃ k, (y0 :: y1 :: y2 :: L).length = k := ⟨_, rfl⟩
      rw [hk]
      have k1 : ¬ (k : Int) < 1 := by simp at hk; omega
      have k2 : (2 : Int) < (k : Int) := by simp at hk; omega
      clear HQ HL HT hv hk
      go_wp2_with (go_at_call 49; refine (HN.out _ _ H1.out.1).mono ?_; rintro e w2 ⟨rfl, rfl⟩)
      have hw := bad.out w1 ⟨#[]⟩ H1.out.1 H1.out.2
      refine bodyPost_ret (results_blk2 rfl rfl hw.2 Tryz.underlying101 rfl Tryz.sizeId rfl) rfl ⟨?_, hw.1⟩
      rw [HO.out]
      exact ⟨_, rfl⟩
    | y :: [], HQ, HL, hv =>
      have HQ' : Hid (O = idC [] (oidO y)) := HQ.out
      have hlen : Hid ([] = ([] : List El) ∨ True) := .inl rfl
      obtain ⟨rest, hrest⟩ : ∃ r : List El, r = [] := ⟨_, rfl⟩
      rw [← hrest] at HQ' hv HL ⊢
      have hr1 : rest.length ≤ 1 := by rw [hrest]; decide
      clear HQ hrest hlen
      have hy := HL.out _ rfl y (by simp)
      obtain ⟨b, off, c, b1, m1, d1', b2, m2, d2', hvv, hc, hbl, e0, e1, e2, e3, e4, sd, sr, ht⟩ := hv.r.s.cons
      have hB : w.heap.size + 2 ≤ b := by rw [hvv] at hv; exact hv.blk
      simp only [Value.slice.injEq] at hvv
      obtain ⟨rfl, hn, rfl⟩ := hvv
      obtain ⟨k, hk⟩ : ∃ k, rest.length = k := ⟨_, rfl⟩
      rw [hk] at hr1 ht hc hn
      rw [hn]
      have k1 : ¬ ((k + 1 : Nat) : Int) < 1 := by omega
      have k2 : ¬ (2 : Int) < ((k + 1 : Nat) : Int) := by omega
      have HO : Hid (∀ W, Below w1.heap.size w1 W → Calls Tryz.prog 70 #[.agg #[.int .i64 y.cl, .int .i64 y.tg, .bool y.co, .slice b1 m1 d1', .slice b2 m2 d2']] W fun e w' => OidAns e (oidO y) ∧ Below W.heap.size W w') := fun W h => readOid_any y b1 m1 d1' b2 m2 d2' (below_sl h sd) hy.2.1 hy.1 (HT.out.below (below_via H1.out.1 h (Nat.le_refl _)))
      have HK : Hid (rest.length = k ∧ w.heap.size + 2 ≤ b ∧ b < w1.heap.size ∧ TlvS w1 (.slice (some ⟨b, off + 5, none⟩) k (cv - 1)) rest) := ⟨hk, hB, hbl, ht⟩
      obtain ⟨OO, hOO⟩ : ∃ OO, oidO y = OO := ⟨_, rfl⟩
      rw [hOO] at HO HQ'
      obtain ⟨ycl, ytg, yco, yD, yR⟩ := y
      simp only [] at HO e0 e1 e2 e3 e4
      have kc : ((k + 1 : Nat) : Int) ≤ (cv : Int) := by omega
      clear hy hv hn hk hr1 ht hOO sd sr HL HT hB hbl hc
      go_wp2_with fail
      refine (HO.out _ (Below.refl _ _)).mono ?_
      rintro e w2 ⟨ho, hb2⟩
      have H2 : Hid (Below w.heap.size w w2 ∧ Blk 101 w2 (w.heap.size + 1) [.string ⟨#[]⟩, .slice none 0 0] ∧ TlvS w2 (.slice (some ⟨b, off + 5, none⟩) k (cv - 1)) rest) := ⟨below_via H1.out.1 hb2 (Nat.le_refl _), below_blk hb2 hs1 H1.out.2, HK.out.2.2.2.below hb2⟩
      have g0 : w2.cell? ⟨w.heap.size + 1, 0, none⟩ = some (.string ⟨#[]⟩) := H2.out.2.1.cell 0
      have g1 : w2.cell? ⟨w.heap.size + 1, 1, none⟩ = some (.slice none 0 0) := H2.out.2.1.cell 1
      have p0 := H2.out.2.1.frozen 0
      have p1 := H2.out.2.1.frozen 1
      clear hb2 d0 d1 f0 f1 e0 e1 e2 e3 e4 HO
      cases OO with
      | none =>
        obtain ⟨s, rfl⟩ := ho
        have HO : Hid (O = none) := HQ'.out
        clear HQ'
        go_wp2_with (go_at_call 49; refine (HN.out _ _ H2.out.1).mono ?_; rintro e w3 ⟨rfl, rfl⟩)
        have hw := bad.out w2 ⟨#[]⟩ H2.out.1 H2.out.2.1
        refine bodyPost_ret (results_blk2 rfl rfl hw.2 Tryz.underlying101 rfl Tryz.sizeId rfl) rfl ⟨?_, hw.1⟩
        rw [HO.out]
        exact ⟨_, rfl⟩
      | some S =>
        obtain rfl : e = _ := ho
        have HO : Hid (O = some (S, rest)) := HQ'.out
        clear HQ'
        by_cases hcv : cv = 1
        · subst hcv
          obtain rfl : k = 0 := by omega
          have hr0 : rest = [] := List.eq_nil_of_length_eq_zero HK.out.1
          go_wp2
          have u := (Upd.set w2 (w.heap.size + 1) 0 (.string S)).trans (Upd.set _ _ 1 (.slice (some ⟨b, off, none⟩) 0 0))
          have hB2 := (H2.out.2.1.set 0 (.string S)).set 1 (.slice (some ⟨b, off, none⟩) 0 0)
          refine bodyPost_ret (results_blk2 rfl rfl hB2 Tryz.underlying101 rfl Tryz.sizeId rfl) rfl ⟨?_, u.below H2.out.1 H2.out.1.size (by omega)⟩
          rw [HO.out]
          exact ⟨_, _, _, rfl, HK.out.1, by rw [hr0]; exact TlvS.nil _ _ _⟩
        · have hcz : ¬ cv - 1 = 0 := by omega
          go_wp2
          have u := (Upd.set w2 (w.heap.size + 1) 0 (.string S)).trans (Upd.set _ _ 1 (.slice (some ⟨b, off + 5, none⟩) k (cv - 1)))
          have hB2 := (H2.out.2.1.set 0 (.string S)).set 1 (.slice (some ⟨b, off + 5, none⟩) k (cv - 1))
          refine bodyPost_ret (results_blk2 rfl rfl hB2 Tryz.underlying101 rfl Tryz.sizeId rfl) rfl ⟨?_, u.below H2.out.1 H2.out.1.size (by omega)⟩
          rw [HO.out]
          exact ⟨_, _, _, rfl, HK.out.1, H2.out.2.2.upd H2.out.2.1 u (fun b' o' n' c' h => by simp only [Value.slice.injEq, Option.some.injEq, Addr.mk.injEq] at h; have := HK.out.2.1; omega) str_nn⟩
    | y :: z :: [], HQ, HL, hv =>
      have HQ' : Hid (O = idC [z] (oidO y)) := HQ.out
      obtain ⟨rest, hrest⟩ : ∃ r : List El, r = [z] := ⟨_, rfl⟩
      rw [← hrest] at HQ' hv HL ⊢
      have hr1 : rest.length ≤ 1 := by rw [hrest]; simp
      clear HQ hrest
      have hy := HL.out _ rfl y (by simp)
      obtain ⟨b, off, c, b1, m1, d1', b2, m2, d2', hvv, hc, hbl, e0, e1, e2, e3, e4, sd, sr, ht⟩ := hv.r.s.cons
      have hB : w.heap.size + 2 ≤ b := by rw [hvv] at hv; exact hv.blk
      simp only [Value.slice.injEq] at hvv
      obtain ⟨rfl, hn, rfl⟩ := hvv
      obtain ⟨k, hk⟩ : ∃ k, rest.length = k := ⟨_, rfl⟩
      rw [hk] at hr1 ht hc hn
      rw [hn]
      have k1 : ¬ ((k + 1 : Nat) : Int) < 1 := by omega
      have k2 : ¬ (2 : Int) < ((k + 1 : Nat) : Int) := by omega
      have HO : Hid (∀ W, Below w1.heap.size w1 W → Calls Tryz.prog 70 #[.agg #[.int .i64 y.cl, .int .i64 y.tg, .bool y.co, .slice b1 m1 d1', .slice b2 m2 d2']] W fun e w' => OidAns e (oidO y) ∧ Below W.heap.size W w') := fun W h => readOid_any y b1 m1 d1' b2 m2 d2' (below_sl h sd) hy.2.1 hy.1 (HT.out.below (below_via H1.out.1 h (Nat.le_refl _)))
      have HK : Hid (rest.length = k ∧ w.heap.size + 2 ≤ b ∧ b < w1.heap.size ∧ TlvS w1 (.slice (some ⟨b, off + 5, none⟩) k (cv - 1)) rest) := ⟨hk, hB, hbl, ht⟩
      obtain ⟨OO, hOO⟩ : ∃ OO, oidO y = OO := ⟨_, rfl⟩
      rw [hOO] at HO HQ'
      obtain ⟨ycl, ytg, yco, yD, yR⟩ := y
      simp only [] at HO e0 e1 e2 e3 e4
      have kc : ((k + 1 : Nat) : Int) ≤ (cv : Int) := by omega
      clear hy hv hn hk hr1 ht hOO sd sr HL HT hB hbl hc
      go_wp2_with fail
      refine (HO.out _ (Below.refl _ _)).mono ?_
      rintro e w2 ⟨ho, hb2⟩
      have H2 : Hid (Below w.heap.size w w2 ∧ Blk 101 w2 (w.heap.size + 1) [.string ⟨#[]⟩, .slice none 0 0] ∧ TlvS w2 (.slice (some ⟨b, off + 5, none⟩) k (cv - 1)) rest) := ⟨below_via H1.out.1 hb2 (Nat.le_refl _), below_blk hb2 hs1 H1.out.2, HK.out.2.2.2.below hb2⟩
      have g0 : w2.cell? ⟨w.heap.size + 1, 0, none⟩ = some (.string ⟨#[]⟩) := H2.out.2.1.cell 0
      have g1 : w2.cell? ⟨w.heap.size + 1, 1, none⟩ = some (.slice none 0 0) := H2.out.2.1.cell 1
      have p0 := H2.out.2.1.frozen 0
      have p1 := H2.out.2.1.frozen 1
      clear hb2 d0 d1 f0 f1 e0 e1 e2 e3 e4 HO
      cases OO with
      | none =>
        obtain ⟨s, rfl⟩ := ho
        have HO : Hid (O = none) := HQ'.out
        clear HQ'
        go_wp2_with (go_at_call 49; refine (HN.out _ _ H2.out.1).mono ?_; rintro e w3 ⟨rfl, rfl⟩)
        have hw := bad.out w2 ⟨#[]⟩ H2.out.1 H2.out.2.1
        refine bodyPost_ret (results_blk2 rfl rfl hw.2 Tryz.underlying101 rfl Tryz.sizeId rfl) rfl ⟨?_, hw.1⟩
        rw [HO.out]
        exact ⟨_, rfl⟩
      | some S =>
        obtain rfl : e = _ := ho
        have HO : Hid (O = some (S, rest)) := HQ'.out
        clear HQ'
        by_cases hcv : cv = 1
        · subst hcv
          obtain rfl : k = 0 := by omega
          have hr0 : rest = [] := List.eq_nil_of_length_eq_zero HK.out.1
          go_wp2
          have u := (Upd.set w2 (w.heap.size + 1) 0 (.string S)).trans (Upd.set _ _ 1 (.slice (some ⟨b, off, none⟩) 0 0))
          have hB2 := (H2.out.2.1.set 0 (.string S)).set 1 (.slice (some ⟨b, off, none⟩) 0 0)
          refine bodyPost_ret (results_blk2 rfl rfl hB2 Tryz.underlying101 rfl Tryz.sizeId rfl) rfl ⟨?_, u.below H2.out.1 H2.out.1.size (by omega)⟩
          rw [HO.out]
          exact ⟨_, _, _, rfl, HK.out.1, by rw [hr0]; exact TlvS.nil _ _ _⟩
        · have hcz : ¬ cv - 1 = 0 := by omega
          go_wp2
          have u := (Upd.set w2 (w.heap.size + 1) 0 (.string S)).trans (Upd.set _ _ 1 (.slice (some ⟨b, off + 5, none⟩) k (cv - 1)))
          have hB2 := (H2.out.2.1.set 0 (.string S)).set 1 (.slice (some ⟨b, off + 5, none⟩) k (cv - 1))
          refine bodyPost_ret (results_blk2 rfl rfl hB2 Tryz.underlying101 rfl Tryz.sizeId rfl) rfl ⟨?_, u.below H2.out.1 H2.out.1.size (by omega)⟩
          rw [HO.out]
          exact ⟨_, _, _, rfl, HK.out.1, H2.out.2.2.upd H2.out.2.1 u (fun b' o' n' c' h => by simp only [Value.slice.injEq, Option.some.injEq, Addr.mk.injEq] at h; have := HK.out.2.1; omega) str_nn⟩
end Go.Proofs.YtillkhjihggcjaaGreatDoor
/-
  Alg: an identifier's rest; readDigest, Digest.
-/
namespace Go.Proofs.YtillkhjihggcjaaGreatDoor
open Go.RowKit
set_option maxRecDepth 20000
theorem isAlone_any {w : World} (S : ByteArray) (a : Option Addr) (n c : Nat) : Calls Tryz.prog 47 #[.agg #[.string S, .slice a n c]] w fun e w' => e = .returned (.bool ((n : Int) == 0)) ∧ Below w.heap.size w w' := by
  go_enter Tryz.func47, Tryz.ntmps47
  go_wp2
  go_ret
  exact ⟨rfl, al1 _⟩
/-- A Null stands behind. -/
def vdP : List El → Bool
  | [b] => isP b 5 && b.d.isEmpty
  | _ => false
theorem vdB_is {rest : List El} (h : rest.length ≤ 1) : vdB rest = (((rest.length : Nat) : Int) == 0 || vdP rest) := by
  match rest, h with
  | [], _ => rfl
  | [b], _ => rfl
set_option maxHeartbeats 1000000 in
theorem isVoid_any {w : World} (S : ByteArray) (a : Option Addr) (n c : Nat) (rest : List El) (hn : rest.length = n) (h1 : n ≤ 1) (hr : TlvS w (.slice a n c) rest) :
    Calls Tryz.prog 48 #[.agg #[.string S, .slice a n c]] w fun e w' => e = .returned (.bool (vdP rest)) ∧ Below w.heap.size w w' := by
  rcases rest with _ | ⟨y, _ | ⟨z, rest⟩⟩
  · obtain rfl : n = 0 := hn.symm
    unfold vdP
    clear hr
    go_enter Tryz.func48, Tryz.ntmps48
    go_wp2
    go_ret
    exact ⟨rfl, al1 _⟩
  · obtain rfl : n = 1 := hn.symm
    obtain ⟨b, off, c', b1, m1, d1, b2, m2, d2, hvv, hc, hbl, e0, e1, e2, e3, e4, sd, sr, ht⟩ := hr.cons
    simp only [Value.slice.injEq] at hvv
    obtain ⟨rfl, hx1, rfl⟩ := hvv
    clear hx1
    have HP : Hid (∀ W : World, Calls Tryz.prog 71 #[.agg #[.int .i64 y.cl, .int .i64 y.tg, .bool y.co, .slice b1 m1 d1, .slice b2 m2 d2], .int .i64 5] W fun e w' => e = .returned (.bool (isP y 5)) ∧ Below W.heap.size W w') := fun W => isPlain_any y _ _ 5
    obtain ⟨ycl, ytg, yco, yD, yR⟩ := y
    simp only [] at HP e0 e1 e2 e3 e4
    have HV : Hid (vdP [⟨ycl, ytg, yco, yD, yR⟩] = (isP ⟨ycl, ytg, yco, yD, yR⟩ 5 && ((m1 : Int) == 0))) := by
      obtain ⟨_, _, hv, _⟩ := sd
      simp only [Value.slice.injEq] at hv
      obtain ⟨_, rfl, _⟩ := hv
      show _ = _
      unfold vdP
      cases yD with
      | nil => simp
      | cons u l => simp; intro _; omega
    rw [HV.out]
    obtain ⟨p, hp⟩ : ∃ p, isP ⟨ycl, ytg, yco, yD, yR⟩ 5 = p := ⟨_, rfl⟩
    rw [hp] at HP ⊢
    have HC : Hid (∀ W, Below w.heap.size w W → W.cell? ⟨b, off, none⟩ = some (.int .i64 ycl) ∧ W.cell? ⟨b, off + 1, none⟩ = some (.int .i64 ytg) ∧ W.cell? ⟨b, off + 2, none⟩ = some (.bool yco) ∧ W.cell? ⟨b, off + 3, none⟩ = some (.slice b1 m1 d1) ∧ W.cell? ⟨b, off + 4, none⟩ = some (.slice b2 m2 d2)) := fun W h => ⟨(h.cell hbl).trans e0, (h.cell hbl).trans e1, (h.cell hbl).trans e2, (h.cell hbl).trans e3, (h.cell hbl).trans e4⟩
    clear hp HV sd sr ht hr hc hn h1 e0 e1 e2 e3 e4 hbl
    go_enter Tryz.func48, Tryz.ntmps48
    go_upto_region 1 with (fail)
    refine wp_gen (fun W => Blk 101 W w.heap.size [.string S, .slice (some ⟨b, off, none⟩) 1 c] ∧ Below w.heap.size w W) ⟨Blk.new _ w _, al1 _⟩ ?_
    rintro W2 ⟨hB, hBw⟩
    have q1 : W2.cell? ⟨w.heap.size, 1, none⟩ = some (.slice (some ⟨b, off, none⟩) 1 c) := hB.cell 1
    obtain ⟨e0, e1, e2, e3, e4⟩ := HC.out _ hBw
    have H2 : Hid (Below w.heap.size w W2 ∧ Blk 101 W2 w.heap.size [.string S, .slice (some ⟨b, off, none⟩) 1 c]) := ⟨hBw, hB⟩
    clear hB hBw
    cases p with
    | false =>
      go_wp2_with (go_at_call 71; refine (HP.out _).mono ?_; rintro e w3 ⟨rfl, hb3⟩; have H3 : Hid (Below w.heap.size w w3) := below_via H2.out.1 hb3 (Nat.le_refl _); clear hb3)
      go_ret
      exact ⟨rfl, H3.out⟩
    | true =>
      go_wp2_with (go_at_call 71; refine (HP.out _).mono ?_; rintro e w3 ⟨rfl, hb3⟩; have H3 : Hid (Below w.heap.size w w3) := below_via H2.out.1 hb3 (Nat.le_refl _); have q1' : w3.cell? ⟨w.heap.size, 1, none⟩ = some (.slice (some ⟨b, off, none⟩) 1 c) := (below_blk hb3 H2.out.2.lt H2.out.2).cell 1; obtain ⟨g0, g1, g2, g3, g4⟩ := HC.out _ H3.out; clear hb3)
      go_ret
      exact ⟨by simp, H3.out⟩
  · simp at hn; omega
end Go.Proofs.YtillkhjihggcjaaGreatDoor
/-
  Alg: readDigest, Digest.
-/
namespace Go.Proofs.YtillkhjihggcjaaGreatDoor
open Go.RowKit
set_option maxRecDepth 20000
theorem rowS_good {x : El} (uD : U8s x.d) (lD : x.d.length ≤ 5000) {L : List El} (h : rowS x = some L) : ∀ y ∈ L, y.d.length ≤ 5000 ∧ U8s y.d ∧ 0 ≤ y.tg := by
  intro y hy
  unfold rowS at h
  split at h
  · cases hS : splitS x.d with
    | inl pq => rw [hS] at h; cases h
    | inr L' =>
      rw [hS] at h
      obtain rfl : L' = L := Option.some.inj h
      have := splitS_good uD hS y hy
      exact ⟨by omega, this.2⟩
  · cases h
theorem oidO_size {x : El} (lD : x.d.length ≤ 5000) {S : ByteArray} (h : oidO x = some S) : S.size ≤ 120000 := by
  unfold oidO at h
  split at h
  · rw [← Option.some.inj h, st_size]; exact oidF_len lD
  · cases h
theorem idS_good {x : El} (uD : U8s x.d) (lD : x.d.length ≤ 5000) {S : ByteArray} {rest : List El} (h : idS x = some (S, rest)) : rest.length ≤ 1 ∧ S.size ≤ 120000 ∧ ∀ y ∈ rest, y.d.length ≤ 5000 ∧ U8s y.d ∧ 0 ≤ y.tg := by
  unfold idS at h
  cases hR : rowS x with
  | none => rw [hR] at h; cases h
  | some L =>
    rw [hR] at h
    have hg := rowS_good uD lD hR
    rcases L with _ | ⟨a, _ | ⟨b, _ | ⟨c, L⟩⟩⟩
    · cases h
    · have h : idC [] (oidO a) = some (S, rest) := h
      cases hO : oidO a with
      | none => rw [hO] at h; cases h
      | some S' =>
        rw [hO] at h
        have h := Option.some.inj h
        simp only [Prod.mk.injEq] at h
        obtain ⟨rfl, rfl⟩ := h
        exact ⟨by simp, oidO_size (hg a (by simp)).1 hO, by simp⟩
    · have h : idC [b] (oidO a) = some (S, rest) := h
      cases hO : oidO a with
      | none => rw [hO] at h; cases h
      | some S' =>
        rw [hO] at h
        have h := Option.some.inj h
        simp only [Prod.mk.injEq] at h
        obtain ⟨rfl, rfl⟩ := h
        exact ⟨by simp, oidO_size (hg a (by simp)).1 hO, fun y hy => hg y (by rw [List.mem_singleton] at hy; subst hy; simp)⟩
    · cases h
theorem sneq (w : World) (u : TypeId) (v : Value) : (binOp .neq 62 (.iface u v) .nilIface).run Tryz.prog w = .ok (.bool true) w := by rfl
theorem s_eq (S K : ByteArray) : (S.toList == K.toList) = decide (S = K) := by
  by_cases h : S = K
  · subst h; simp
  · have : S.toList ≠ K.toList := fun e => h (by rw [Lib.toList_data, Lib.toList_data] at e; cases S; cases K; exact congrArg ByteArray.mk (Array.toList_inj.1 e))
    simp [h, this]
/-- What readDigest tells. -/
def DigAns (an : Addr) (e : Ending) (d : Int) : Prop := (d = 0 ∧ ∃ s, e = .returned (.tuple #[.int .i64 0, flV an s])) ∨ (d ≠ 0 ∧ e = .returned (.tuple #[.int .i64 d, .nilIface]))
set_option maxHeartbeats 4000000 in
theorem readDigest_any {w : World} {an ak : Addr} (hG : Glb w an ak) (hT : P10 w) (x : El) (a1 : Option Addr) (n1 c1 : Nat) (a2 : Option Addr) (n2 c2 : Nat) (hD : Sl .u8 w (.slice a1 n1 c1) x.d) (uD : U8s x.d) (lD : x.d.length ≤ 5000) :
    Calls Tryz.prog 21 #[.agg #[.int .i64 x.cl, .int .i64 x.tg, .bool x.co, .slice a1 n1 c1, .slice a2 n2 c2]] w fun e w' => DigAns an e (digS x) ∧ Below w.heap.size w w' := by
  have HI : Hid (∀ W, Below w.heap.size w W → Calls Tryz.prog 46 #[.agg #[.int .i64 x.cl, .int .i64 x.tg, .bool x.co, .slice a1 n1 c1, .slice a2 n2 c2]] W fun e w' => IdAns an w' e (idS x) ∧ Below W.heap.size W w') := fun W h => readId_any (hG.below h) (hT.below h) x a1 n1 c1 a2 n2 c2 (below_sl h hD) uD lD
  have HN : Hid (∀ W s, Below w.heap.size w W → Calls Tryz.prog 49 #[.string s] W fun e w' => e = .returned (flV an s) ∧ W = w') := fun W s h => none_any (hG.below h) s
  obtain ⟨O, hO⟩ : ∃ O, digS x = O := ⟨_, rfl⟩
  obtain ⟨RO, hRO⟩ : ∃ R, idS x = R := ⟨_, rfl⟩
  rw [hO]
  have HQ : Hid (O = digO RO) := by show _ = _; rw [← hO, ← hRO]; rfl
  have HL : Hid (∀ S rest, RO = some (S, rest) → rest.length ≤ 1 ∧ S.size ≤ 120000) := fun S rest h => by have := idS_good uD lD (hRO.trans h); exact ⟨this.1, this.2.1⟩
  rw [hRO] at HI
  have hsn := sneq
  obtain ⟨cl, tg, co, D, R⟩ := x
  simp only [] at hD HI ⊢
  clear hD uD lD hO hRO hG hT
  go_enter Tryz.func21, Tryz.ntmps21
  go_wp2_with fail
  refine (HI.out _ (al1 _)).mono ?_
  rintro e w1 ⟨ha, hb⟩
  have H1 : Hid (Below w.heap.size w w1) := below_via (al1 _) hb (Nat.le_refl _)
  clear hb HI
  cases RO with
  | none =>
    obtain ⟨s, rfl⟩ := ha
    have HO : Hid (O = 0) := HQ.out
    clear HQ HL
    simp only [flV, erV]
    go_wp2
    go_ret2
    exact ⟨.inl ⟨HO.out, _, rfl⟩, below_via H1.out (al1 _) (Nat.le_refl _)⟩
  | some SR =>
    obtain ⟨S, rest⟩ := SR
    obtain ⟨a, n, c, rfl, hn, hr⟩ := ha
    have hl := HL.out S rest rfl
    rw [hn] at hl
    have HO : Hid (O = if vdB rest = true then dgN S else 0) := HQ.out
    clear HQ HL
    have HV : Hid (vdB rest = ((((n : Nat) : Int) == 0) || vdP rest)) := by rw [← hn]; exact vdB_is (by omega)
    obtain ⟨vb, hvb⟩ : ∃ v, vdP rest = v := ⟨_, rfl⟩
    have HW : Hid (∀ W, Below w1.heap.size w1 W → Calls Tryz.prog 48 #[.agg #[.string S, .slice a n c]] W fun e w' => e = .returned (.bool vb) ∧ Below W.heap.size W w') := fun W h => by rw [← hvb]; exact isVoid_any S a n c rest hn hl.1 (hr.below h)
    have HA : Hid (∀ W, Calls Tryz.prog 47 #[.agg #[.string S, .slice a n c]] W fun e w' => e = .returned (.bool ((n : Int) == 0)) ∧ Below W.heap.size W w') := fun W => isAlone_any S a n c
    rw [hvb] at HV
    have hS := hl.2
    obtain ⟨q, hq⟩ : ∃ q, (((n : Nat) : Int) == 0) = q := ⟨_, rfl⟩
    rw [hq] at HV HA
    clear hr hn hl hvb hq
    go_upto_region 2 with (fail)
    refine wp_gen (fun W => Blk 101 W w1.heap.size [.string S, .slice a n c] ∧ Below w1.heap.size w1 W) ⟨Blk.new _ w1 _, al1 _⟩ ?_
    rintro W2 ⟨hB, hBw⟩
    have H2 : Hid (Below w1.heap.size w1 W2 ∧ Below w.heap.size w W2 ∧ ∀ W, Below W2.heap.size W2 W → Blk 101 W w1.heap.size [.string S, .slice a n c]) := ⟨hBw, below_via H1.out hBw (Nat.le_refl _), fun W h => below_blk h hB.lt hB⟩
    have i0 : W2.cell? ⟨w1.heap.size, 0, none⟩ = some (.string S) := hB.cell 0
    have i1 : W2.cell? ⟨w1.heap.size, 1, none⟩ = some (.slice a n c) := hB.cell 1
    clear hB hBw
    go_wp2_with fail
    refine (HA.out _).mono ?_
    rintro e w3 ⟨rfl, hb3⟩
    have H3 : Hid (Below w1.heap.size w1 w3 ∧ Below w.heap.size w w3 ∧ Below W2.heap.size W2 w3) := ⟨below_via H2.out.1 hb3 (Nat.le_refl _), below_via H2.out.2.1 hb3 (Nat.le_refl _), hb3⟩
    have j0 : w3.cell? ⟨w1.heap.size, 0, none⟩ = some (.string S) := (H2.out.2.2 _ hb3).cell 0
    have j1 : w3.cell? ⟨w1.heap.size, 1, none⟩ = some (.slice a n c) := (H2.out.2.2 _ hb3).cell 1
    clear hb3 i0 i1
    cases q with
    | true =>
      replace HO : Hid (O = dgN S) := by show _ = _; rw [HO.out, HV.out]; rfl
      have HB : Hid (Below w.heap.size w w3) := H3.out.2.1
      clear HV HW HA H2 H3
      cases h0 : (S.toList == [49, 46, 51, 46, 49, 52, 46, 51, 46, 50, 46, 50, 54]) with
      | true =>
        have HD : Hid (O = 1) := by show _ = _; rw [HO.out]; unfold dgN; simp [h0]
        clear HO
        go_wp2
        go_ret2
        rw [HD.out]
        exact ⟨.inr ⟨by decide, rfl⟩, HB.out⟩
      | false =>
        cases h1 : (S.toList == [50, 46, 49, 54, 46, 56, 52, 48, 46, 49, 46, 49, 48, 49, 46, 51, 46, 52, 46, 50, 46, 49]) with
        | true =>
          have HD : Hid (O = 2) := by show _ = _; rw [HO.out]; unfold dgN; simp [h0, h1]
          clear HO
          go_wp2
          go_ret2
          rw [HD.out]
          exact ⟨.inr ⟨by decide, rfl⟩, HB.out⟩
        | false =>
          cases h2 : (S.toList == [50, 46, 49, 54, 46, 56, 52, 48, 46, 49, 46, 49, 48, 49, 46, 51, 46, 52, 46, 50, 46, 50]) with
          | true =>
            have HD : Hid (O = 3) := by show _ = _; rw [HO.out]; unfold dgN; simp [h0, h1, h2]
            clear HO
            go_wp2
            go_ret2
            rw [HD.out]
            exact ⟨.inr ⟨by decide, rfl⟩, HB.out⟩
          | false =>
            cases h3 : (S.toList == [50, 46, 49, 54, 46, 56, 52, 48, 46, 49, 46, 49, 48, 49, 46, 51, 46, 52, 46, 50, 46, 51]) with
            | true =>
              have HD : Hid (O = 4) := by show _ = _; rw [HO.out]; unfold dgN; simp [h0, h1, h2, h3]
              clear HO
              go_wp2
              go_ret2
              rw [HD.out]
              exact ⟨.inr ⟨by decide, rfl⟩, HB.out⟩
            | false =>
              have HD : Hid (O = 0) := by show _ = _; rw [HO.out]; unfold dgN; simp [h0, h1, h2, h3]
              clear HO
              go_wp2_with (go_at_call 49; refine (HN.out _ _ (by exact HB.out)).mono ?_; rintro e w9 ⟨rfl, rfl⟩)
              go_ret2
              exact ⟨.inl ⟨HD.out, _, rfl⟩, HB.out⟩
    | false =>
      go_wp2_with fail
      refine (HW.out _ H3.out.1).mono ?_
      rintro e w4 ⟨rfl, hb4⟩
      have HB : Hid (Below w.heap.size w w4) := below_via H3.out.2.1 hb4 (Nat.le_refl _)
      have l0 : w4.cell? ⟨w1.heap.size, 0, none⟩ = some (.string S) := (H2.out.2.2 _ (below_via H3.out.2.2 hb4 (Nat.le_refl _))).cell 0
      clear hb4 j0 j1
      cases vb with
      | true =>
        replace HO : Hid (O = dgN S) := by show _ = _; rw [HO.out, HV.out]; rfl
        clear HV HW HA H2 H3
        cases h0 : (S.toList == [49, 46, 51, 46, 49, 52, 46, 51, 46, 50, 46, 50, 54]) with
        | true =>
          have HD : Hid (O = 1) := by show _ = _; rw [HO.out]; unfold dgN; simp [h0]
          clear HO
          go_wp2
          go_ret2
          rw [HD.out]
          exact ⟨.inr ⟨by decide, rfl⟩, HB.out⟩
        | false =>
          cases h1 : (S.toList == [50, 46, 49, 54, 46, 56, 52, 48, 46, 49, 46, 49, 48, 49, 46, 51, 46, 52, 46, 50, 46, 49]) with
          | true =>
            have HD : Hid (O = 2) := by show _ = _; rw [HO.out]; unfold dgN; simp [h0, h1]
            clear HO
            go_wp2
            go_ret2
            rw [HD.out]
            exact ⟨.inr ⟨by decide, rfl⟩, HB.out⟩
          | false =>
            cases h2 : (S.toList == [50, 46, 49, 54, 46, 56, 52, 48, 46, 49, 46, 49, 48, 49, 46, 51, 46, 52, 46, 50, 46, 50]) with
            | true =>
              have HD : Hid (O = 3) := by show _ = _; rw [HO.out]; unfold dgN; simp [h0, h1, h2]
              clear HO
              go_wp2
              go_ret2
              rw [HD.out]
              exact ⟨.inr ⟨by decide, rfl⟩, HB.out⟩
            | false =>
              cases h3 : (S.toList == [50, 46, 49, 54, 46, 56, 52, 48, 46, 49, 46, 49, 48, 49, 46, 51, 46, 52, 46, 50, 46, 51]) with
              | true =>
                have HD : Hid (O = 4) := by show _ = _; rw [HO.out]; unfold dgN; simp [h0, h1, h2, h3]
                clear HO
                go_wp2
                go_ret2
                rw [HD.out]
                exact ⟨.inr ⟨by decide, rfl⟩, HB.out⟩
              | false =>
                have HD : Hid (O = 0) := by show _ = _; rw [HO.out]; unfold dgN; simp [h0, h1, h2, h3]
                clear HO
                go_wp2_with (go_at_call 49; refine (HN.out _ _ (by exact HB.out)).mono ?_; rintro e w9 ⟨rfl, rfl⟩)
                go_ret2
                exact ⟨.inl ⟨HD.out, _, rfl⟩, HB.out⟩
      | false =>
        have HD : Hid (O = 0) := by show _ = _; rw [HO.out, HV.out]; rfl
        clear HO HV HW HA H2 H3
        go_wp2_with (go_at_call 49; refine (HN.out _ _ (by exact HB.out)).mono ?_; rintro e w9 ⟨rfl, rfl⟩)
        go_ret2
        exact ⟨.inl ⟨HD.out, _, rfl⟩, HB.out⟩
end Go.Proofs.YtillkhjihggcjaaGreatDoor
/-
  Alg: Digest; the reference's row, Is, read, void, Digest.
-/
namespace Go.Proofs.YtillkhjihggcjaaGreatDoor
open Go.RowKit
set_option maxRecDepth 20000
def errD (d : Int) : Int := if d = 0 then 110 else 0
set_option maxHeartbeats 1000000 in
theorem Digest_any {w : World} {an ak : Addr} (hG : Glb w an ak) (hT : P10 w) (x : El) (a1 : Option Addr) (n1 c1 : Nat) (a2 : Option Addr) (n2 c2 : Nat) (hD : Sl .u8 w (.slice a1 n1 c1) x.d) (uD : U8s x.d) (lD : x.d.length ≤ 5000) :
    Calls Tryz.prog 7 #[.agg #[.int .i64 x.cl, .int .i64 x.tg, .bool x.co, .slice a1 n1 c1, .slice a2 n2 c2]] w fun e w' => e = .returned (.tuple #[.int .i64 (digS x), .int .i64 (errD (digS x))]) ∧ Below w.heap.size w w' := by
  have HI : Hid (∀ W, Below w.heap.size w W → Calls Tryz.prog 21 #[.agg #[.int .i64 x.cl, .int .i64 x.tg, .bool x.co, .slice a1 n1 c1, .slice a2 n2 c2]] W fun e w' => DigAns an e (digS x) ∧ Below W.heap.size W w') := fun W h => readDigest_any (hG.below h) (hT.below h) x a1 n1 c1 a2 n2 c2 (below_sl h hD) uD lD
  have HN : Hid (∀ W s, Below w.heap.size w W → Calls Tryz.prog 22 #[.iface 129 (.agg #[.string s, .iface 236 (.pointer (some an))])] W fun e w' => e = .returned (.int .i64 110) ∧ Below W.heap.size W w') := fun W s h => toldN (hG.below h) s
  have HZ : Hid (∀ W, Calls Tryz.prog 22 #[.nilIface] W fun e w' => e = .returned (.int .i64 0) ∧ W = w') := fun W => told0
  obtain ⟨d, hd⟩ : ∃ d, digS x = d := ⟨_, rfl⟩
  rw [hd] at HI ⊢
  obtain ⟨cl, tg, co, D, R⟩ := x
  simp only [] at hD HI ⊢
  clear hD uD lD hd hG hT
  go_enter Tryz.func7, Tryz.ntmps7
  go_wp2_with fail
  refine (HI.out _ (al1 _)).mono ?_
  rintro e w1 ⟨ha, hb⟩
  have H1 : Hid (Below w.heap.size w w1) := below_via (al1 _) hb (Nat.le_refl _)
  clear hb HI
  rcases ha with ⟨h0, s, rfl⟩ | ⟨h0, rfl⟩
  · have HE : Hid (errD d = 110) := by show _ = _; unfold errD; rw [if_pos h0]
    subst h0
    simp only [flV, erV]
    go_wp2_with (go_at_call 22; refine (HN.out _ _ H1.out).mono ?_; rintro e w2 ⟨rfl, hb2⟩; have H2 : Hid (Below w.heap.size w w2) := below_via H1.out hb2 (Nat.le_refl _); clear hb2)
    go_ret2
    rw [HE.out]
    exact ⟨rfl, H2.out⟩
  · have HE : Hid (errD d = 0) := by show _ = _; unfold errD; rw [if_neg h0]
    clear h0
    go_wp2_with (go_at_call 22; refine (HZ.out _).mono ?_; rintro e w2 ⟨rfl, rfl⟩)
    go_ret2
    rw [HE.out]
    exact ⟨rfl, H1.out⟩
end Go.Proofs.YtillkhjihggcjaaGreatDoor
